/-
  What spec.SetsNode does.
-/
import Derived.Test.YtkgdmlfdlkmojaaMathSetN
import Derived.Test.YtkgdmlfdlkmojaaSets
import Derived.Test.YtkgdmlfdlkmojaaRowsN
import Derived.Test.YtkgdmlfdlkmojaaBx4
import Derived.Deep.RegionHeld3
namespace Go.Proofs.Ytkgdmlfdlkmojaa
open Go.RowKit M
set_option linter.unusedVariables false
set_option linter.unusedSimpArgs false

/-- One node in a row of its own. -/
theorem OwnK.madeS (W : World) (n : Nd) (an : Option Addr) (cn : Nat) (T : TypeId) (lo : Nat) (hlo : lo ≤ W.heap.size) (h : OwnK W an n.ks (Ivl lo W.heap.size)) :
    OwnK (W.alloc (Obj.cells #[.string n.ns, .string n.nm, .string n.tx, .slice an n.ks.length cn] T)) (some ⟨W.heap.size, 0, none⟩) [n] (Ivl lo (W.heap.size + 1)) := by
  have hb := (Below.refl W.heap.size W).alloc (Nat.le_refl _) (Obj.cells #[.string n.ns, .string n.nm, .string n.tx, .slice an n.ks.length cn] T)
  refine .row W.heap.size 0 [n] (fun _ => an) (fun _ => cn) (fun _ => Ivl lo W.heap.size) _ ⟨hlo, Nat.lt_succ_self _⟩ (fun j hj => ?_) (fun i => World.frozen?_alloc_new W _ _ i) (fun j hj => ?_) (fun j x hj hx => ⟨⟨hx.1, by have := hx.2; omega⟩, by have := hx.2; omega⟩) (fun i j x hij hj => ?_)
  · have e : j = 0 := by simp at hj; exact hj
    subst e
    simp
  · have e : j = 0 := by simp at hj; exact hj
    subst e
    exact h.stays hb (fun x hx => hx.2)
  · simp at hj; omega
theorem OwnK.setD {w : World} {a : Option Addr} {ks : List Nd} {S : Nat → Prop} {b k : Nat} (h : OwnK w a ks S) (v : Value) (hb : ∀ x, S x → x ≠ b) : OwnK (w.setCell ⟨b, k, none⟩ v) a ks S :=
  h.keep (fun x o hx => World.cell?_of_block (a := ⟨x, o, none⟩) (Below.heap_setCell _ _ _ _ (hb x hx))) (fun x o hx => by rw [World.frozen?_setCell])
theorem map_take_setS {ss : List Sx} {k : Nat} (hk : k < ss.length) : (ss.take (k + 1)).map setN = (ss.take k).map setN ++ [setN ss[k]] := by
  rw [List.take_succ_eq_append_getElem hk, List.map_append]; rfl
/-- A set at its place. -/
def SB (W : World) (b o : Nat) (s : Sx) : Prop := W.cell? ⟨b, o, none⟩ = some (.bool s.1) ∧ W.cell? ⟨b, o + 1, none⟩ = some (.string s.2.1) ∧ W.cell? ⟨b, o + 2, none⟩ = some (.string s.2.2.1) ∧ W.cell? ⟨b, o + 3, none⟩ = some (.string s.2.2.2)
theorem SB.alloc {W : World} {b o : Nat} {s : Sx} (h : SB W b o s) (x : Obj) : SB (W.alloc x) b o s := by
  have hb := (Below.refl W.heap.size W).alloc (Nat.le_refl _) x
  have hl : b < W.heap.size := World.block_lt_of_cell? W _ h.1
  unfold SB at *
  simp only [(bcellP hb).1 b _ hl]
  exact h

set_option maxRecDepth 100000 in
set_option maxHeartbeats 16000000 in
theorem specSetsNode_any (a : Option Addr) (ss : List Sx) (cap B : Nat) (w : World) (h : Sts w B a ss) (hB : B ≤ w.heap.size) (hl : ss.length ≤ 1048576) :
    Calls Try.prog 32 #[.slice a ss.length cap] w fun e w' => (∃ ak ck, e = .returned (.agg #[.string davT, .string updT, .string ⟨#[]⟩, .slice ak ss.length ck]) ∧ OwnK w' ak (ss.map setN) (Ivl w.heap.size w'.heap.size)) ∧ Below w.heap.size w w' := by
  have BR := hide ((Bx.made w (.string ⟨#[]⟩) (.string ⟨#[]⟩) (.string ⟨#[]⟩) (.slice none 0 0) 58).next ((Below.refl (w.heap.size + 1) _).alloc (by simp) (Obj.cells #[.string davT, .string updT, .string ⟨#[]⟩, .slice none 0 0] 58)) (Nat.lt_succ_self _))
  have BK := hide (show Bx ((w.alloc (Obj.cells #[.string ⟨#[]⟩, .string ⟨#[]⟩, .string ⟨#[]⟩, .slice none 0 0] 58)).alloc (Obj.cells #[.string davT, .string updT, .string ⟨#[]⟩, .slice none 0 0] 58)) (w.heap.size + 1) (.string davT) (.string updT) (.string ⟨#[]⟩) (.slice none 0 0) by have := Bx.made (w.alloc (Obj.cells #[.string ⟨#[]⟩, .string ⟨#[]⟩, .string ⟨#[]⟩, .slice none 0 0] 58)) (.string davT) (.string updT) (.string ⟨#[]⟩) (.slice none 0 0) 58; simpa using this)
  have HB0 := hide (show Below w.heap.size w ((w.alloc (Obj.cells #[.string ⟨#[]⟩, .string ⟨#[]⟩, .string ⟨#[]⟩, .slice none 0 0] 58)).alloc (Obj.cells #[.string davT, .string updT, .string ⟨#[]⟩, .slice none 0 0] 58)) from ((Below.refl _ _).alloc (Nat.le_refl _) _).alloc (by simp) _)
  have HM := hide (GrowK.nil ((w.alloc (Obj.cells #[.string ⟨#[]⟩, .string ⟨#[]⟩, .string ⟨#[]⟩, .slice none 0 0] 58)).alloc (Obj.cells #[.string davT, .string updT, .string ⟨#[]⟩, .slice none 0 0] 58)) (w.heap.size + 2) (by simp))
  go_enter Try.func32, Try.ntmps32
  go_wp2
  go_loopw [4] (fun i wr => ∃ (k lo : Nat) (ts : List NdT) (v : Value), k ≤ ss.length ∧ i = .int .i64 k ∧ Hid (GrowK wr (w.heap.size + 2) v ts lo) ∧ w.heap.size + 2 ≤ lo ∧ Hid (ts.map (fun t : NdT => t.1) = (ss.take k).map setN) ∧ Hid (Bx wr (w.heap.size + 1) (.string davT) (.string updT) (.string ⟨#[]⟩) v) ∧ Hid (Bx wr w.heap.size (.string ⟨#[]⟩) (.string ⟨#[]⟩) (.string ⟨#[]⟩) (.slice none 0 0)) ∧ Below w.heap.size w wr) (fun i _ => ss.length - (intOf i).toNat)
  case atStart => exact ⟨0, _, [], _, Nat.zero_le _, rfl, HM, by simp, rfl, BK, BR, HB0.out⟩
  case round =>
    obtain ⟨k, lo, ts, v, hk, rfl, HG, hlo, HT, HBk, HBr, hbe⟩ := hrel
    have hszr : w.heap.size + 2 ≤ wr.heap.size := Nat.le_trans hlo HG.out.top
    have hN1r : w.heap.size + 1 < wr.heap.size := by omega
    have hR0r : w.heap.size < wr.heap.size := by omega
    by_cases hlt : k < ss.length
    · obtain ⟨b, o, rfl, hb, hc⟩ := (h.below hbe hB) (by omega)
      have hx := hc k hlt
      have HMT := hide (map_take_setS hlt)
      have HTL := hide (show ts.length ≤ ss.length by have := congrArg List.length HT.out; rw [List.length_map, List.length_map, List.length_take] at this; omega)
      obtain ⟨s, hss⟩ : ∃ s, ss[k] = s := ⟨_, rfl⟩
      rw [hss] at hx HMT
      clear hss hc
      obtain ⟨d, p⟩ := s
      obtain ⟨x0, x1, x2, x3⟩ := hx
      have hki : (k : Int) < (ss.length : Int) := by omega
      have hk0 : (0 : Int) ≤ (k : Int) := by omega
      have hlen : ts.length + 1 ≤ 1000000000 := by have := HTL.out; omega
      have HSB := hide (show SB wr.drew b (o + k * 4) (d, p) from ⟨x0, x1, x2, x3⟩)
      cases d
      · go_wp2_with fail
        refine wp_region_held_drew (S := (fun W => SB W b (o + k * 4) (false, p))) (by kernel_rfl) (by exact HSB.out) (fun hHeld => ?_)
        have hHeldW := hHeld
        simp only [List.size_toArray, List.length_cons, List.length_nil, Nat.reduceAdd, Array.replicate_succ, Array.replicate_zero, List.push_toArray, List.nil_append, List.cons_append]
        refine wpAnyH_take (i := 0) (v := ?_) rfl (by kernel_rfl) (by kernel_rfl) (by kernel_rfl) (fun _ _ _ h => h) (Or.inl ⟨by rfl, ?_⟩) (by assumption) ?_
        rotate_left
        · intro w hSw; (try dsimp only at hSw); obtain ⟨hs0, hs1, hs2, hs3⟩ := hSw; go_simp; try with_reducible rfl
        simp only [Act.put, List.getElem_toArray, List.getElem_cons_zero, List.setIfInBounds_toArray, List.set_cons_zero]
        refine wpAnyH_take (i := 1) (v := ?_) rfl (by kernel_rfl) (by kernel_rfl) (by kernel_rfl) (fun _ _ _ h => h) (Or.inl ⟨by rfl, ?_⟩) (by assumption) ?_
        rotate_left
        · intro w hSw; (try dsimp only at hSw); obtain ⟨hs0, hs1, hs2, hs3⟩ := hSw; go_simp; try with_reducible rfl
        simp only [Act.put, List.getElem_toArray, List.getElem_cons_succ, List.getElem_cons_zero, List.setIfInBounds_toArray, List.set_cons_succ, List.set_cons_zero]
        refine wpAnyH_take (i := 2) (v := ?_) rfl (by kernel_rfl) (by kernel_rfl) (by kernel_rfl) (fun _ _ _ h => h) (Or.inl ⟨by rfl, ?_⟩) (by assumption) ?_
        rotate_left
        · intro w hSw; (try dsimp only at hSw); obtain ⟨hs0, hs1, hs2, hs3⟩ := hSw; go_simp; try with_reducible rfl
        simp only [Act.put, List.getElem_toArray, List.getElem_cons_succ, List.getElem_cons_zero, List.setIfInBounds_toArray, List.set_cons_succ, List.set_cons_zero]
        refine wpAnyH_take (i := 3) (v := ?_) rfl (by kernel_rfl) (by kernel_rfl) (by kernel_rfl) (fun _ _ _ h => h) (Or.inl ⟨by rfl, ?_⟩) (by assumption) ?_
        rotate_left
        · intro w hSw; (try dsimp only at hSw); obtain ⟨hs0, hs1, hs2, hs3⟩ := hSw; go_simp; try with_reducible rfl
        simp only [Act.put, List.getElem_toArray, List.getElem_cons_succ, List.getElem_cons_zero, List.setIfInBounds_toArray, List.set_cons_succ, List.set_cons_zero]
        refine wpAnyH_take (i := 4) (v := ?_) rfl (by kernel_rfl) (by kernel_rfl) (by kernel_rfl) (fun _ _ _ h => h) (Or.inl ⟨by rfl, ?_⟩) (by assumption) ?_
        rotate_left
        · intro w hSw; (try dsimp only at hSw); obtain ⟨hs0, hs1, hs2, hs3⟩ := hSw; go_simp; try with_reducible rfl
        simp only [Act.put, List.getElem_toArray, List.getElem_cons_succ, List.getElem_cons_zero, List.setIfInBounds_toArray, List.set_cons_succ, List.set_cons_zero]
        refine wpAnyH_take (i := 5) (v := ?_) rfl (by kernel_rfl) (by kernel_rfl) (by kernel_rfl) (fun _ _ _ h => h) (Or.inl ⟨by rfl, ?_⟩) (by assumption) ?_
        rotate_left
        · intro w hSw; (try dsimp only at hSw); obtain ⟨hs0, hs1, hs2, hs3⟩ := hSw; go_simp; try with_reducible rfl
        simp only [Act.put, List.getElem_toArray, List.getElem_cons_succ, List.getElem_cons_zero, List.setIfInBounds_toArray, List.set_cons_succ, List.set_cons_zero]
        refine wpAnyH_take (i := 6) (v := ?_) rfl (by kernel_rfl) (by kernel_rfl) (by kernel_rfl) (fun _ _ _ h => h) (Or.inl ⟨by rfl, ?_⟩) (by assumption) ?_
        rotate_left
        · intro w hSw; (try dsimp only at hSw); obtain ⟨hs0, hs1, hs2, hs3⟩ := hSw; go_simp; try with_reducible rfl
        simp only [Act.put, List.getElem_toArray, List.getElem_cons_succ, List.getElem_cons_zero, List.setIfInBounds_toArray, List.set_cons_succ, List.set_cons_zero]
        refine wpAnyH_take (i := 7) (v := ?_) rfl (by kernel_rfl) (by kernel_rfl) (by kernel_rfl) (fun _ _ _ h => h) (Or.inl ⟨by rfl, ?_⟩) (by assumption) ?_
        rotate_left
        · intro w hSw; (try dsimp only at hSw); obtain ⟨hs0, hs1, hs2, hs3⟩ := hSw; go_simp; try with_reducible rfl
        simp only [Act.put, List.getElem_toArray, List.getElem_cons_succ, List.getElem_cons_zero, List.setIfInBounds_toArray, List.set_cons_succ, List.set_cons_zero]
        refine wpAnyH_take (i := 8) (v := ?_) rfl (by kernel_rfl) (by kernel_rfl) (by kernel_rfl) (fun _ _ _ h => h) (Or.inl ⟨by rfl, ?_⟩) (by assumption) ?_
        rotate_left
        · intro w hSw; (try dsimp only at hSw); obtain ⟨hs0, hs1, hs2, hs3⟩ := hSw; go_simp; try with_reducible rfl
        simp only [Act.put, List.getElem_toArray, List.getElem_cons_succ, List.getElem_cons_zero, List.setIfInBounds_toArray, List.set_cons_succ, List.set_cons_zero]
        refine wpAnyH_take (i := 9) (v := ?_) rfl (by kernel_rfl) (by kernel_rfl) (by kernel_rfl) (fun _ _ _ h => h) (Or.inl ⟨by rfl, ?_⟩) (by assumption) ?_
        rotate_left
        · intro w hSw; (try dsimp only at hSw); obtain ⟨hs0, hs1, hs2, hs3⟩ := hSw; go_simp; try with_reducible rfl
        simp only [Act.put, List.getElem_toArray, List.getElem_cons_succ, List.getElem_cons_zero, List.setIfInBounds_toArray, List.set_cons_succ, List.set_cons_zero]
        refine wpAnyH_take (i := 10) (v := ?_) rfl (by kernel_rfl) (by kernel_rfl) (by kernel_rfl) (fun _ _ _ h => h) (Or.inl ⟨by rfl, ?_⟩) (by assumption) ?_
        rotate_left
        · intro w hSw; (try dsimp only at hSw); obtain ⟨hs0, hs1, hs2, hs3⟩ := hSw; go_simp; try with_reducible rfl
        simp only [Act.put, List.getElem_toArray, List.getElem_cons_succ, List.getElem_cons_zero, List.setIfInBounds_toArray, List.set_cons_succ, List.set_cons_zero]
        refine wpAnyH_take (i := 11) (v := ?_) rfl (by kernel_rfl) (by kernel_rfl) (by kernel_rfl) (fun _ _ _ h => h) (Or.inl ⟨by rfl, ?_⟩) (by assumption) ?_
        rotate_left
        · intro w hSw; (try dsimp only at hSw); obtain ⟨hs0, hs1, hs2, hs3⟩ := hSw; go_simp; try with_reducible rfl
        simp only [Act.put, List.getElem_toArray, List.getElem_cons_succ, List.getElem_cons_zero, List.setIfInBounds_toArray, List.set_cons_succ, List.set_cons_zero]
        refine wpAnyH_take (i := 12) (v := ?_) rfl (by kernel_rfl) (by kernel_rfl) (by kernel_rfl) (fun _ _ _ h => h) (Or.inl ⟨by rfl, ?_⟩) (by assumption) ?_
        rotate_left
        · intro w hSw; (try dsimp only at hSw); obtain ⟨hs0, hs1, hs2, hs3⟩ := hSw; go_simp; try with_reducible rfl
        simp only [Act.put, List.getElem_toArray, List.getElem_cons_succ, List.getElem_cons_zero, List.setIfInBounds_toArray, List.set_cons_succ, List.set_cons_zero]
        refine wpAnyH_take (i := 13) (v := ?_) rfl (by kernel_rfl) (by kernel_rfl) (by kernel_rfl) (fun _ _ _ h => h) (Or.inl ⟨by rfl, ?_⟩) (by assumption) ?_
        rotate_left
        · intro w hSw; (try dsimp only at hSw); obtain ⟨hs0, hs1, hs2, hs3⟩ := hSw; go_simp; try with_reducible rfl
        simp only [Act.put, List.getElem_toArray, List.getElem_cons_succ, List.getElem_cons_zero, List.setIfInBounds_toArray, List.set_cons_succ, List.set_cons_zero]
        refine wpAnyH_ready (rs := [14]) (by kernel_rfl) (by simp) ?_
        refine AllReadyH.cons rfl (fun K hK => ?_) AllReadyH.nil
        go_simp
        refine hK.out _ _ (hHeld.alloc _) (fun hHeld2 => ?_)
        clear hK K hHeld
        have hHeld := hHeld2
        clear hHeld2
        simp only [List.setIfInBounds_toArray, List.set_cons_succ, List.set_cons_zero]
        refine wpAnyH_ready (rs := [15]) (by kernel_rfl) (by simp) ?_
        refine AllReadyH.cons rfl (fun K hK => ?_) AllReadyH.nil
        go_simp
        refine hK.out _ _ (hHeldW.alloc _) (fun hHeld2 => ?_)
        clear hK K hHeld
        have hHeld := hHeld2
        clear hHeld2
        simp only [List.setIfInBounds_toArray, List.set_cons_succ, List.set_cons_zero]
        refine wpAnyH_done (by kernel_rfl) ?_ _
        clear hHeldW
        have bL1 : Below wr.heap.size wr ((wr.alloc (Obj.cells #[.string p.1, .string p.2.1, .string p.2.2, .slice none 0 0] 58)).drew) := below_drewP ((Below.refl wr.heap.size wr).alloc (Nat.le_refl _) _)
        have BX1 : Bx ((wr.alloc (Obj.cells #[.string p.1, .string p.2.1, .string p.2.2, .slice none 0 0] 58)).drew) wr.heap.size (.string p.1) (.string p.2.1) (.string p.2.2) (.slice none 0 0) := (Bx.made wr (.string p.1) (.string p.2.1) (.string p.2.2) (.slice none 0 0) 58).of (Nat.le_refl _) rfl
        have z1 : Hid (((wr.alloc (Obj.cells #[.string p.1, .string p.2.1, .string p.2.2, .slice none 0 0] 58)).drew).heap.size = wr.heap.size + 1) := by show (wr.alloc (Obj.cells #[.string p.1, .string p.2.1, .string p.2.2, .slice none 0 0] 58)).heap.size = _; simp
        obtain ⟨W1, hW1⟩ : ∃ W, (wr.alloc (Obj.cells #[.string p.1, .string p.2.1, .string p.2.2, .slice none 0 0] 58)).drew = W := ⟨_, rfl⟩
        rw [hW1] at bL1 BX1 z1 ⊢
        clear hW1 hHeld
        obtain ⟨_, l0, l1, l2, l3, lz⟩ := BX1
        obtain ⟨_, n0, n1, n2, n3, nz⟩ := HBk.out.next bL1 hN1r
        have K1 := OwnK.madeS W1 (leafN (false, p)) none 0 58 (wr.heap.size + 1) (by rw [z1.out]; exact Nat.le_refl _) (OwnK.nil none _)
        have K2 := (K1.stays (C := W1.heap.size + 1) ((Below.refl (W1.heap.size + 1) _).alloc (by simp) (Obj.cells #[.string davT, .string prpT, .string ⟨#[]⟩, .slice (some ⟨W1.heap.size, 0, none⟩) 1 1] 58)) (fun x hx => hx.2)).wide (T := Ivl (wr.heap.size + 1) ((W1.alloc (Obj.cells #[.string p.1, .string p.2.1, .string p.2.2, .slice none 0 0] 58)).alloc (Obj.cells #[.string davT, .string prpT, .string ⟨#[]⟩, .slice (some ⟨W1.heap.size, 0, none⟩) 1 1] 58)).heap.size) (fun x hx => ⟨hx.1, by have := hx.2; simp; omega⟩)
        have K3 := OwnK.madeS ((W1.alloc (Obj.cells #[.string p.1, .string p.2.1, .string p.2.2, .slice none 0 0] 58)).alloc (Obj.cells #[.string davT, .string prpT, .string ⟨#[]⟩, .slice (some ⟨W1.heap.size, 0, none⟩) 1 1] 58)) (prpN (false, p)) (some ⟨W1.heap.size, 0, none⟩) 1 58 (wr.heap.size + 1) (by have := z1.out; simp; omega) K2
        have eV : ((W1.alloc (Obj.cells #[.string p.1, .string p.2.1, .string p.2.2, .slice none 0 0] 58)).alloc (Obj.cells #[.string davT, .string prpT, .string ⟨#[]⟩, .slice (some ⟨W1.heap.size, 0, none⟩) 1 1] 58)).heap.size = W1.heap.size + 2 := by simp
        rw [eV] at K3
        have K4 := (K3.stays (C := W1.heap.size + 2 + 1) ((Below.refl (W1.heap.size + 2 + 1) _).alloc (by simp) (Obj.cells #[.string davT, .string setT, .string ⟨#[]⟩, .slice (some ⟨W1.heap.size + 2, 0, none⟩) 1 1] 58)) (fun x hx => hx.2)).wide (T := Ivl (wr.heap.size + 1) ((((W1.alloc (Obj.cells #[.string p.1, .string p.2.1, .string p.2.2, .slice none 0 0] 58)).alloc (Obj.cells #[.string davT, .string prpT, .string ⟨#[]⟩, .slice (some ⟨W1.heap.size, 0, none⟩) 1 1] 58)).alloc (Obj.cells #[.string davT, .string prpT, .string ⟨#[]⟩, .slice (some ⟨W1.heap.size, 0, none⟩) 1 1] 58)).alloc (Obj.cells #[.string davT, .string setT, .string ⟨#[]⟩, .slice (some ⟨W1.heap.size + 2, 0, none⟩) 1 1] 58)).heap.size) (fun x hx => ⟨hx.1, by have := hx.2; simp; omega⟩)
        have HK4 := hide K4
        have bW : Below W1.heap.size W1 ((((W1.alloc (Obj.cells #[.string p.1, .string p.2.1, .string p.2.2, .slice none 0 0] 58)).alloc (Obj.cells #[.string davT, .string prpT, .string ⟨#[]⟩, .slice (some ⟨W1.heap.size, 0, none⟩) 1 1] 58)).alloc (Obj.cells #[.string davT, .string prpT, .string ⟨#[]⟩, .slice (some ⟨W1.heap.size, 0, none⟩) 1 1] 58)).alloc (Obj.cells #[.string davT, .string setT, .string ⟨#[]⟩, .slice (some ⟨W1.heap.size + 2, 0, none⟩) 1 1] 58)) := ((((Below.refl W1.heap.size W1).alloc (Nat.le_refl _) _).alloc (by simp) _).alloc (by simp; omega) _).alloc (by simp; omega) _
        have HBW := hide (bL1.trans (bW.mono bL1.size))
        have HG4 := hide ((HG.out.next HBW.out).up (lo' := wr.heap.size + 1) (by have := HG.out.top; omega) (by have := z1.out; have := bW.size; omega))
        have HBk4 := hide (HBk.out.next HBW.out hN1r)
        have HBr4 := hide (HBr.out.next HBW.out hR0r)
        have hlo1 : w.heap.size + 2 ≤ wr.heap.size + 1 := by omega
        have n3b : ((W1.alloc (Obj.cells #[.string p.1, .string p.2.1, .string p.2.2, .slice none 0 0] 58)).alloc (Obj.cells #[.string ⟨#[68, 65, 86, 58]⟩, .string ⟨#[112, 114, 111, 112]⟩, .string ⟨#[]⟩, .slice (some ⟨W1.heap.size, 0, none⟩) 1 1] 58)).cell? ⟨w.heap.size + 1, 3, none⟩ = some v := ((HBk.out.next bL1 hN1r).next (((Below.refl W1.heap.size W1).alloc (Nat.le_refl _) (Obj.cells #[.string p.1, .string p.2.1, .string p.2.2, .slice none 0 0] 58)).alloc (by simp) (Obj.cells #[.string ⟨#[68, 65, 86, 58]⟩, .string ⟨#[112, 114, 111, 112]⟩, .string ⟨#[]⟩, .slice (some ⟨W1.heap.size, 0, none⟩) 1 1] 58)) (by have := z1.out; omega)).c3
        clear K1 K2 K3 K4 bW eV bL1
        go_wp2_with (at_builtin; refine wp_append_node rfl _ _ rfl (w.heap.size + 2) (wr.heap.size + 1) _ ts rfl HG4.out _ (setN (false, p)) (some ⟨W1.heap.size + 2, 0, none⟩) 1 rfl ?_ ?_ ?_ ?_ hlen hlo1 HK4.out ?_)
        any_goals (first | (simp [go_sem, setN, Nd.ns, Nd.nm, Nd.tx, Nd.ks, davT, remT, setT]; done))
        intro g5 c5 w5 hG5 hb5
        have hG5' := hG5.store ⟨w.heap.size + 1, 3, none⟩ (.slice (some ⟨g5, 0, none⟩) (ts.length + 1) c5) (by show w.heap.size + 1 < w.heap.size + 2; omega)
        have Bk5 := HBk4.out.next hb5 (Nat.lt_succ_self _)
        have HBk5 := hide (Bk5.set3 (.slice (some ⟨g5, 0, none⟩) (ts.length + 1) c5))
        have HBr5 := hide ((HBr4.out.next hb5 (by omega)).other (b' := w.heap.size + 1) (k := 3) (.slice (some ⟨g5, 0, none⟩) (ts.length + 1) c5) (by omega))
        have HB5 := hide (((hbe.trans (HBW.out.mono hbe.size)).trans (hb5.mono (by omega))).setCell (p := ⟨w.heap.size + 1, 3, none⟩) (by show w.heap.size ≤ w.heap.size + 1; omega) (.slice (some ⟨g5, 0, none⟩) (ts.length + 1) c5))
        have HG5 := hide hG5'
        have HT5 := hide (show List.map (fun t : NdT => t.1) (ts ++ [(setN (false, p), some (⟨W1.heap.size + 2, 0, none⟩ : Addr), 1)]) = (ss.take (k + 1)).map setN by rw [HMT.out, List.map_append, HT.out]; rfl)
        have hz5 : w.heap.size + 2 ≤ w5.heap.size := by have := Bk5.lt; omega
        obtain ⟨_, m0, m1, m2, m3, mz⟩ := Bk5
        have HSZ := hide (show (ts ++ [(setN (false, p), some (⟨W1.heap.size + 2, 0, none⟩ : Addr), 1)]).length = ts.length + 1 by simp)
        clear hG5 hG5' hb5 HG4 HK4 HBW HBk4 HBr4 l0 l1 l2 l3 lz n0 n1 n2 n3 nz n3b
        go_wp2
        go_roundw
        case rel => exact ⟨k + 1, w5.heap.size, _, _, by omega, by go_num, by simpa using HG5, by omega, HT5, HBk5, HBr5, HB5.out⟩
        case measure => simp [intOf]; omega
      · go_wp2_with fail
        refine wp_region_held_drew (S := (fun W => SB W b (o + k * 4) (true, p))) (by kernel_rfl) (by exact HSB.out) (fun hHeld => ?_)
        have hHeldW := hHeld
        simp only [List.size_toArray, List.length_cons, List.length_nil, Nat.reduceAdd, Array.replicate_succ, Array.replicate_zero, List.push_toArray, List.nil_append, List.cons_append]
        refine wpAnyH_take (i := 0) (v := ?_) rfl (by kernel_rfl) (by kernel_rfl) (by kernel_rfl) (fun _ _ _ h => h) (Or.inl ⟨by rfl, ?_⟩) (by assumption) ?_
        rotate_left
        · intro w hSw; (try dsimp only at hSw); obtain ⟨hs0, hs1, hs2, hs3⟩ := hSw; go_simp; try with_reducible rfl
        simp only [Act.put, List.getElem_toArray, List.getElem_cons_zero, List.setIfInBounds_toArray, List.set_cons_zero]
        refine wpAnyH_take (i := 1) (v := ?_) rfl (by kernel_rfl) (by kernel_rfl) (by kernel_rfl) (fun _ _ _ h => h) (Or.inl ⟨by rfl, ?_⟩) (by assumption) ?_
        rotate_left
        · intro w hSw; (try dsimp only at hSw); obtain ⟨hs0, hs1, hs2, hs3⟩ := hSw; go_simp; try with_reducible rfl
        simp only [Act.put, List.getElem_toArray, List.getElem_cons_succ, List.getElem_cons_zero, List.setIfInBounds_toArray, List.set_cons_succ, List.set_cons_zero]
        refine wpAnyH_take (i := 2) (v := ?_) rfl (by kernel_rfl) (by kernel_rfl) (by kernel_rfl) (fun _ _ _ h => h) (Or.inl ⟨by rfl, ?_⟩) (by assumption) ?_
        rotate_left
        · intro w hSw; (try dsimp only at hSw); obtain ⟨hs0, hs1, hs2, hs3⟩ := hSw; go_simp; try with_reducible rfl
        simp only [Act.put, List.getElem_toArray, List.getElem_cons_succ, List.getElem_cons_zero, List.setIfInBounds_toArray, List.set_cons_succ, List.set_cons_zero]
        refine wpAnyH_take (i := 3) (v := ?_) rfl (by kernel_rfl) (by kernel_rfl) (by kernel_rfl) (fun _ _ _ h => h) (Or.inl ⟨by rfl, ?_⟩) (by assumption) ?_
        rotate_left
        · intro w hSw; (try dsimp only at hSw); obtain ⟨hs0, hs1, hs2, hs3⟩ := hSw; go_simp; try with_reducible rfl
        simp only [Act.put, List.getElem_toArray, List.getElem_cons_succ, List.getElem_cons_zero, List.setIfInBounds_toArray, List.set_cons_succ, List.set_cons_zero]
        refine wpAnyH_take (i := 4) (v := ?_) rfl (by kernel_rfl) (by kernel_rfl) (by kernel_rfl) (fun _ _ _ h => h) (Or.inl ⟨by rfl, ?_⟩) (by assumption) ?_
        rotate_left
        · intro w hSw; (try dsimp only at hSw); obtain ⟨hs0, hs1, hs2, hs3⟩ := hSw; go_simp; try with_reducible rfl
        simp only [Act.put, List.getElem_toArray, List.getElem_cons_succ, List.getElem_cons_zero, List.setIfInBounds_toArray, List.set_cons_succ, List.set_cons_zero]
        refine wpAnyH_take (i := 5) (v := ?_) rfl (by kernel_rfl) (by kernel_rfl) (by kernel_rfl) (fun _ _ _ h => h) (Or.inl ⟨by rfl, ?_⟩) (by assumption) ?_
        rotate_left
        · intro w hSw; (try dsimp only at hSw); obtain ⟨hs0, hs1, hs2, hs3⟩ := hSw; go_simp; try with_reducible rfl
        simp only [Act.put, List.getElem_toArray, List.getElem_cons_succ, List.getElem_cons_zero, List.setIfInBounds_toArray, List.set_cons_succ, List.set_cons_zero]
        refine wpAnyH_take (i := 6) (v := ?_) rfl (by kernel_rfl) (by kernel_rfl) (by kernel_rfl) (fun _ _ _ h => h) (Or.inl ⟨by rfl, ?_⟩) (by assumption) ?_
        rotate_left
        · intro w hSw; (try dsimp only at hSw); obtain ⟨hs0, hs1, hs2, hs3⟩ := hSw; go_simp; try with_reducible rfl
        simp only [Act.put, List.getElem_toArray, List.getElem_cons_succ, List.getElem_cons_zero, List.setIfInBounds_toArray, List.set_cons_succ, List.set_cons_zero]
        refine wpAnyH_take (i := 7) (v := ?_) rfl (by kernel_rfl) (by kernel_rfl) (by kernel_rfl) (fun _ _ _ h => h) (Or.inl ⟨by rfl, ?_⟩) (by assumption) ?_
        rotate_left
        · intro w hSw; (try dsimp only at hSw); obtain ⟨hs0, hs1, hs2, hs3⟩ := hSw; go_simp; try with_reducible rfl
        simp only [Act.put, List.getElem_toArray, List.getElem_cons_succ, List.getElem_cons_zero, List.setIfInBounds_toArray, List.set_cons_succ, List.set_cons_zero]
        refine wpAnyH_take (i := 8) (v := ?_) rfl (by kernel_rfl) (by kernel_rfl) (by kernel_rfl) (fun _ _ _ h => h) (Or.inl ⟨by rfl, ?_⟩) (by assumption) ?_
        rotate_left
        · intro w hSw; (try dsimp only at hSw); obtain ⟨hs0, hs1, hs2, hs3⟩ := hSw; go_simp; try with_reducible rfl
        simp only [Act.put, List.getElem_toArray, List.getElem_cons_succ, List.getElem_cons_zero, List.setIfInBounds_toArray, List.set_cons_succ, List.set_cons_zero]
        refine wpAnyH_take (i := 9) (v := ?_) rfl (by kernel_rfl) (by kernel_rfl) (by kernel_rfl) (fun _ _ _ h => h) (Or.inl ⟨by rfl, ?_⟩) (by assumption) ?_
        rotate_left
        · intro w hSw; (try dsimp only at hSw); obtain ⟨hs0, hs1, hs2, hs3⟩ := hSw; go_simp; try with_reducible rfl
        simp only [Act.put, List.getElem_toArray, List.getElem_cons_succ, List.getElem_cons_zero, List.setIfInBounds_toArray, List.set_cons_succ, List.set_cons_zero]
        refine wpAnyH_take (i := 10) (v := ?_) rfl (by kernel_rfl) (by kernel_rfl) (by kernel_rfl) (fun _ _ _ h => h) (Or.inl ⟨by rfl, ?_⟩) (by assumption) ?_
        rotate_left
        · intro w hSw; (try dsimp only at hSw); obtain ⟨hs0, hs1, hs2, hs3⟩ := hSw; go_simp; try with_reducible rfl
        simp only [Act.put, List.getElem_toArray, List.getElem_cons_succ, List.getElem_cons_zero, List.setIfInBounds_toArray, List.set_cons_succ, List.set_cons_zero]
        refine wpAnyH_take (i := 11) (v := ?_) rfl (by kernel_rfl) (by kernel_rfl) (by kernel_rfl) (fun _ _ _ h => h) (Or.inl ⟨by rfl, ?_⟩) (by assumption) ?_
        rotate_left
        · intro w hSw; (try dsimp only at hSw); obtain ⟨hs0, hs1, hs2, hs3⟩ := hSw; go_simp; try with_reducible rfl
        simp only [Act.put, List.getElem_toArray, List.getElem_cons_succ, List.getElem_cons_zero, List.setIfInBounds_toArray, List.set_cons_succ, List.set_cons_zero]
        refine wpAnyH_take (i := 12) (v := ?_) rfl (by kernel_rfl) (by kernel_rfl) (by kernel_rfl) (fun _ _ _ h => h) (Or.inl ⟨by rfl, ?_⟩) (by assumption) ?_
        rotate_left
        · intro w hSw; (try dsimp only at hSw); obtain ⟨hs0, hs1, hs2, hs3⟩ := hSw; go_simp; try with_reducible rfl
        simp only [Act.put, List.getElem_toArray, List.getElem_cons_succ, List.getElem_cons_zero, List.setIfInBounds_toArray, List.set_cons_succ, List.set_cons_zero]
        refine wpAnyH_take (i := 13) (v := ?_) rfl (by kernel_rfl) (by kernel_rfl) (by kernel_rfl) (fun _ _ _ h => h) (Or.inl ⟨by rfl, ?_⟩) (by assumption) ?_
        rotate_left
        · intro w hSw; (try dsimp only at hSw); obtain ⟨hs0, hs1, hs2, hs3⟩ := hSw; go_simp; try with_reducible rfl
        simp only [Act.put, List.getElem_toArray, List.getElem_cons_succ, List.getElem_cons_zero, List.setIfInBounds_toArray, List.set_cons_succ, List.set_cons_zero]
        refine wpAnyH_ready (rs := [14]) (by kernel_rfl) (by simp) ?_
        refine AllReadyH.cons rfl (fun K hK => ?_) AllReadyH.nil
        go_simp
        refine hK.out _ _ (hHeld.alloc _) (fun hHeld2 => ?_)
        clear hK K hHeld
        have hHeld := hHeld2
        clear hHeld2
        simp only [List.setIfInBounds_toArray, List.set_cons_succ, List.set_cons_zero]
        refine wpAnyH_ready (rs := [15]) (by kernel_rfl) (by simp) ?_
        refine AllReadyH.cons rfl (fun K hK => ?_) AllReadyH.nil
        go_simp
        refine hK.out _ _ (hHeldW.alloc _) (fun hHeld2 => ?_)
        clear hK K hHeld
        have hHeld := hHeld2
        clear hHeld2
        simp only [List.setIfInBounds_toArray, List.set_cons_succ, List.set_cons_zero]
        refine wpAnyH_done (by kernel_rfl) ?_ _
        clear hHeldW
        have bL1 : Below wr.heap.size wr ((wr.alloc (Obj.cells #[.string p.1, .string p.2.1, .string ⟨#[]⟩, .slice none 0 0] 58)).drew) := below_drewP ((Below.refl wr.heap.size wr).alloc (Nat.le_refl _) _)
        have BX1 : Bx ((wr.alloc (Obj.cells #[.string p.1, .string p.2.1, .string ⟨#[]⟩, .slice none 0 0] 58)).drew) wr.heap.size (.string p.1) (.string p.2.1) (.string ⟨#[]⟩) (.slice none 0 0) := (Bx.made wr (.string p.1) (.string p.2.1) (.string ⟨#[]⟩) (.slice none 0 0) 58).of (Nat.le_refl _) rfl
        have z1 : Hid (((wr.alloc (Obj.cells #[.string p.1, .string p.2.1, .string ⟨#[]⟩, .slice none 0 0] 58)).drew).heap.size = wr.heap.size + 1) := by show (wr.alloc (Obj.cells #[.string p.1, .string p.2.1, .string ⟨#[]⟩, .slice none 0 0] 58)).heap.size = _; simp
        obtain ⟨W1, hW1⟩ : ∃ W, (wr.alloc (Obj.cells #[.string p.1, .string p.2.1, .string ⟨#[]⟩, .slice none 0 0] 58)).drew = W := ⟨_, rfl⟩
        rw [hW1] at bL1 BX1 z1 ⊢
        clear hW1 hHeld
        obtain ⟨_, l0, l1, l2, l3, lz⟩ := BX1
        obtain ⟨_, n0, n1, n2, n3, nz⟩ := HBk.out.next bL1 hN1r
        have K1 := OwnK.madeS W1 (leafN (true, p)) none 0 58 (wr.heap.size + 1) (by rw [z1.out]; exact Nat.le_refl _) (OwnK.nil none _)
        have K2 := (K1.stays (C := W1.heap.size + 1) ((Below.refl (W1.heap.size + 1) _).alloc (by simp) (Obj.cells #[.string davT, .string prpT, .string ⟨#[]⟩, .slice (some ⟨W1.heap.size, 0, none⟩) 1 1] 58)) (fun x hx => hx.2)).wide (T := Ivl (wr.heap.size + 1) ((W1.alloc (Obj.cells #[.string p.1, .string p.2.1, .string ⟨#[]⟩, .slice none 0 0] 58)).alloc (Obj.cells #[.string davT, .string prpT, .string ⟨#[]⟩, .slice (some ⟨W1.heap.size, 0, none⟩) 1 1] 58)).heap.size) (fun x hx => ⟨hx.1, by have := hx.2; simp; omega⟩)
        have K3 := OwnK.madeS ((W1.alloc (Obj.cells #[.string p.1, .string p.2.1, .string ⟨#[]⟩, .slice none 0 0] 58)).alloc (Obj.cells #[.string davT, .string prpT, .string ⟨#[]⟩, .slice (some ⟨W1.heap.size, 0, none⟩) 1 1] 58)) (prpN (true, p)) (some ⟨W1.heap.size, 0, none⟩) 1 58 (wr.heap.size + 1) (by have := z1.out; simp; omega) K2
        have eV : ((W1.alloc (Obj.cells #[.string p.1, .string p.2.1, .string ⟨#[]⟩, .slice none 0 0] 58)).alloc (Obj.cells #[.string davT, .string prpT, .string ⟨#[]⟩, .slice (some ⟨W1.heap.size, 0, none⟩) 1 1] 58)).heap.size = W1.heap.size + 2 := by simp
        rw [eV] at K3
        have K4 := (K3.stays (C := W1.heap.size + 2 + 1) ((Below.refl (W1.heap.size + 2 + 1) _).alloc (by simp) (Obj.cells #[.string davT, .string remT, .string ⟨#[]⟩, .slice (some ⟨W1.heap.size + 2, 0, none⟩) 1 1] 58)) (fun x hx => hx.2)).wide (T := Ivl (wr.heap.size + 1) ((((W1.alloc (Obj.cells #[.string p.1, .string p.2.1, .string ⟨#[]⟩, .slice none 0 0] 58)).alloc (Obj.cells #[.string davT, .string prpT, .string ⟨#[]⟩, .slice (some ⟨W1.heap.size, 0, none⟩) 1 1] 58)).alloc (Obj.cells #[.string davT, .string prpT, .string ⟨#[]⟩, .slice (some ⟨W1.heap.size, 0, none⟩) 1 1] 58)).alloc (Obj.cells #[.string davT, .string remT, .string ⟨#[]⟩, .slice (some ⟨W1.heap.size + 2, 0, none⟩) 1 1] 58)).heap.size) (fun x hx => ⟨hx.1, by have := hx.2; simp; omega⟩)
        have HK4 := hide K4
        have bW : Below W1.heap.size W1 ((((W1.alloc (Obj.cells #[.string p.1, .string p.2.1, .string ⟨#[]⟩, .slice none 0 0] 58)).alloc (Obj.cells #[.string davT, .string prpT, .string ⟨#[]⟩, .slice (some ⟨W1.heap.size, 0, none⟩) 1 1] 58)).alloc (Obj.cells #[.string davT, .string prpT, .string ⟨#[]⟩, .slice (some ⟨W1.heap.size, 0, none⟩) 1 1] 58)).alloc (Obj.cells #[.string davT, .string remT, .string ⟨#[]⟩, .slice (some ⟨W1.heap.size + 2, 0, none⟩) 1 1] 58)) := ((((Below.refl W1.heap.size W1).alloc (Nat.le_refl _) _).alloc (by simp) _).alloc (by simp; omega) _).alloc (by simp; omega) _
        have HBW := hide (bL1.trans (bW.mono bL1.size))
        have HG4 := hide ((HG.out.next HBW.out).up (lo' := wr.heap.size + 1) (by have := HG.out.top; omega) (by have := z1.out; have := bW.size; omega))
        have HBk4 := hide (HBk.out.next HBW.out hN1r)
        have HBr4 := hide (HBr.out.next HBW.out hR0r)
        have hlo1 : w.heap.size + 2 ≤ wr.heap.size + 1 := by omega
        have n3b : ((W1.alloc (Obj.cells #[.string p.1, .string p.2.1, .string ⟨#[]⟩, .slice none 0 0] 58)).alloc (Obj.cells #[.string ⟨#[68, 65, 86, 58]⟩, .string ⟨#[112, 114, 111, 112]⟩, .string ⟨#[]⟩, .slice (some ⟨W1.heap.size, 0, none⟩) 1 1] 58)).cell? ⟨w.heap.size + 1, 3, none⟩ = some v := ((HBk.out.next bL1 hN1r).next (((Below.refl W1.heap.size W1).alloc (Nat.le_refl _) (Obj.cells #[.string p.1, .string p.2.1, .string ⟨#[]⟩, .slice none 0 0] 58)).alloc (by simp) (Obj.cells #[.string ⟨#[68, 65, 86, 58]⟩, .string ⟨#[112, 114, 111, 112]⟩, .string ⟨#[]⟩, .slice (some ⟨W1.heap.size, 0, none⟩) 1 1] 58)) (by have := z1.out; omega)).c3
        clear K1 K2 K3 K4 bW eV bL1
        go_wp2_with (at_builtin; refine wp_append_node rfl _ _ rfl (w.heap.size + 2) (wr.heap.size + 1) _ ts rfl HG4.out _ (setN (true, p)) (some ⟨W1.heap.size + 2, 0, none⟩) 1 rfl ?_ ?_ ?_ ?_ hlen hlo1 HK4.out ?_)
        any_goals (first | (simp [go_sem, setN, Nd.ns, Nd.nm, Nd.tx, Nd.ks, davT, remT, setT]; done))
        intro g5 c5 w5 hG5 hb5
        have hG5' := hG5.store ⟨w.heap.size + 1, 3, none⟩ (.slice (some ⟨g5, 0, none⟩) (ts.length + 1) c5) (by show w.heap.size + 1 < w.heap.size + 2; omega)
        have Bk5 := HBk4.out.next hb5 (Nat.lt_succ_self _)
        have HBk5 := hide (Bk5.set3 (.slice (some ⟨g5, 0, none⟩) (ts.length + 1) c5))
        have HBr5 := hide ((HBr4.out.next hb5 (by omega)).other (b' := w.heap.size + 1) (k := 3) (.slice (some ⟨g5, 0, none⟩) (ts.length + 1) c5) (by omega))
        have HB5 := hide (((hbe.trans (HBW.out.mono hbe.size)).trans (hb5.mono (by omega))).setCell (p := ⟨w.heap.size + 1, 3, none⟩) (by show w.heap.size ≤ w.heap.size + 1; omega) (.slice (some ⟨g5, 0, none⟩) (ts.length + 1) c5))
        have HG5 := hide hG5'
        have HT5 := hide (show List.map (fun t : NdT => t.1) (ts ++ [(setN (true, p), some (⟨W1.heap.size + 2, 0, none⟩ : Addr), 1)]) = (ss.take (k + 1)).map setN by rw [HMT.out, List.map_append, HT.out]; rfl)
        have hz5 : w.heap.size + 2 ≤ w5.heap.size := by have := Bk5.lt; omega
        obtain ⟨_, m0, m1, m2, m3, mz⟩ := Bk5
        have HSZ := hide (show (ts ++ [(setN (true, p), some (⟨W1.heap.size + 2, 0, none⟩ : Addr), 1)]).length = ts.length + 1 by simp)
        clear hG5 hG5' hb5 HG4 HK4 HBW HBk4 HBr4 l0 l1 l2 l3 lz n0 n1 n2 n3 nz n3b
        go_wp2
        go_roundw
        case rel => exact ⟨k + 1, w5.heap.size, _, _, by omega, by go_num, by simpa using HG5, by omega, HT5, HBk5, HBr5, HB5.out⟩
        case measure => simp [intOf]; omega
    · obtain ⟨ak, ck, hv, hO⟩ := HG.out.done
      subst hv
      have HE := hide (show ts.map (·.1) = ss.map setN by rw [HT.out, List.take_of_length_le (by omega)])
      rw [HE.out] at hO
      have hll : ts.length = ss.length := by have := congrArg List.length HE.out; simpa using this
      rw [hll] at HBk
      obtain ⟨_, n0, n1, n2, n3, nz⟩ := HBk.out
      obtain ⟨_, r0, r1, r2, r3, rz⟩ := HBr.out
      have HO := hide hO
      clear hO hll HE HG HBk HBr
      go_wp2
      refine bodyPost_ret (v := .agg #[.string davT, .string updT, .string ⟨#[]⟩, .slice ak ss.length ck]) (by simp [results, Try.results32, go_sem, r0, r1, r2, r3]) rfl ⟨⟨ak, ck, rfl, ?_⟩, ?_⟩
      · refine ((((HO.out.setD _ ?_).setD _ ?_).setD _ ?_).setD _ ?_).wide (fun x hx => ⟨by have := hx.1; omega, by have := hx.2; simp; omega⟩)
        all_goals exact fun x hx e => by have := hx.1; omega
      · exact (((hbe.setCell (Nat.le_refl _) _).setCell (Nat.le_refl _) _).setCell (Nat.le_refl _) _).setCell (Nat.le_refl _) _
end Go.Proofs.Ytkgdmlfdlkmojaa
