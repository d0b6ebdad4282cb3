/-
  What the specification's l8Copy does: a tree of blocks of its own.
-/
import Derived.Test.YtanebchmeaomgabRowsN
import Derived.Test.YtanebchmeaomgabBoxNode
namespace Go.Proofs.Ytanebchmeaomgab
open Go.RowKit M
set_option linter.unusedVariables false

theorem take_mapS {ks : List Nd} {ts : List NdT} {k : Nat} (h : ts.map (·.1) = ks.take k) (hk : k < ks.length) (a : Option Addr) (c : Nat) : (ts ++ [(ks[k], a, c)]).map (·.1) = ks.take (k + 1) := by
  rw [List.map_append, h, List.take_add_one, List.getElem?_eq_getElem hk]
  rfl
theorem len_mapS {ks : List Nd} {ts : List NdT} {k : Nat} (h : ts.map (·.1) = ks.take k) (hk : k ≤ ks.length) : ts.length = k := by
  have := congrArg List.length h
  rw [List.length_map, List.length_take] at this
  omega

/-- The copy that is made: what stands in its box. -/
structure OutN (w : World) (b : Nat) (v : Value) (n : Nd) : Prop where
  lt : b < w.heap.size
  c0 : w.cell? ⟨b, 0, none⟩ = some (.string n.ns)
  c1 : w.cell? ⟨b, 1, none⟩ = some (.string n.nm)
  c2 : w.cell? ⟨b, 2, none⟩ = some (.string n.tx)
  c3 : w.cell? ⟨b, 3, none⟩ = some v
  f3 : w.frozen? ⟨b, 3, none⟩ = false
theorem OutN.keep {w w' : World} {b C : Nat} {v : Value} {n : Nd} (h : OutN w b v n) (hb : Below C w w') (hC : b < C) : OutN w' b v n :=
  ⟨Nat.lt_of_lt_of_le h.lt hb.size, by rw [hb.cell (p := ⟨b, 0, none⟩) hC]; exact h.c0, by rw [hb.cell (p := ⟨b, 1, none⟩) hC]; exact h.c1, by rw [hb.cell (p := ⟨b, 2, none⟩) hC]; exact h.c2, by rw [hb.cell (p := ⟨b, 3, none⟩) hC]; exact h.c3, by rw [hb.frozen (p := ⟨b, 3, none⟩) hC]; exact h.f3⟩
theorem OutN.set {w : World} {b : Nat} {v : Value} {n : Nd} (h : OutN w b v n) (u : Value) : OutN (w.setCell ⟨b, 3, none⟩ u) b u n :=
  ⟨by simpa using h.lt, by rw [World.cell?_setCell_other _ _ _ _ (fun e => by cases e)]; exact h.c0, by rw [World.cell?_setCell_other _ _ _ _ (fun e => by cases e)]; exact h.c1, by rw [World.cell?_setCell_other _ _ _ _ (fun e => by cases e)]; exact h.c2, World.cell?_setCell_same _ _ _ h.c3, by simpa using h.f3⟩

def CsS (K : Nat) : Prop := ∀ (n : Nd) (a : Option Addr) (cap B : Nat) (w : World), cntL n.ks < K → Nds w B a n.ks → B ≤ w.heap.size → n.szN ≤ 1048576 →
    Calls Try.prog 12 #[.agg #[.string n.ns, .string n.nm, .string n.tx, .slice a n.ks.length cap]] w fun e w' => (∃ (a' : Option Addr) (c' : Nat), e = .returned (.agg #[.string n.ns, .string n.nm, .string n.tx, .slice a' n.ks.length c']) ∧ OwnK w' a' n.ks (Ivl w.heap.size w'.heap.size)) ∧ Below w.heap.size w w'

set_option maxRecDepth 100000 in
set_option maxHeartbeats 4000000 in
theorem l8Copy_step (K : Nat) (ih : CsS K) : CsS (K + 1) := by
  intro n a cap B w hn h hB hs
  have HI : Hid (CsS K) := ih
  clear ih
  rw [szN_ks] at hs
  have HX0 := hide (BoxN.made w a cap n 28)
  have HX1 := hide (HX0.out.alloc (Obj.cells #[Value.string { data := #[] }, Value.string { data := #[] }, Value.string { data := #[] }, Value.slice none 0 0] 28))
  obtain ⟨ra, rb, rc, ks⟩ := n
  simp only [Nd.ns, Nd.nm, Nd.tx, Nd.ks] at *
  have HH := hide h
  clear h
  obtain ⟨W2, hW2⟩ : ∃ W2, ((w.alloc (Obj.cells #[Value.string ra, Value.string rb, Value.string rc, Value.slice a ks.length cap] 28)).alloc (Obj.cells #[Value.string { data := #[] }, Value.string { data := #[] }, Value.string { data := #[] }, Value.slice none 0 0] 28)) = W2 := ⟨_, rfl⟩
  have hB1 : Hid (Below w.heap.size w W2) := by rw [← hW2]; exact ((Below.refl _ _).alloc (Nat.le_refl _) _).alloc (by simp) _
  have HS2 : Hid (W2.heap.size = w.heap.size + 1 + 1) := by rw [← hW2]; show _ = _; simp
  rw [hW2] at HX1
  have HO0 : Hid (OutN (W2.alloc (Obj.cells #[Value.string ra, Value.string rb, Value.string rc, Value.slice none 0 0] 28)) (w.heap.size + 1 + 1) (.slice none 0 0) (.mk ra rb rc ks)) := by
    rw [← HS2.out]
    exact ⟨by simp, by simp [Nd.ns], by simp [Nd.nm], by simp [Nd.tx], by simp, by simp⟩
  have HR : Hid (∀ W' : World, Below (w.heap.size + 1 + 1) W2 W' → W'.cell? ⟨w.heap.size + 1, 0, none⟩ = some (.string { data := #[] }) ∧ W'.cell? ⟨w.heap.size + 1, 1, none⟩ = some (.string { data := #[] }) ∧ W'.cell? ⟨w.heap.size + 1, 2, none⟩ = some (.string { data := #[] }) ∧ W'.cell? ⟨w.heap.size + 1, 3, none⟩ = some (.slice none 0 0) ∧ W'.frozen? ⟨w.heap.size + 1, 0, none⟩ = false ∧ W'.frozen? ⟨w.heap.size + 1, 1, none⟩ = false ∧ W'.frozen? ⟨w.heap.size + 1, 2, none⟩ = false ∧ W'.frozen? ⟨w.heap.size + 1, 3, none⟩ = false) := fun W' hb => by
    have hc := fun (i o : Nat) (hi : i < w.heap.size + 1 + 1) => hb.cell (p := ⟨i, o, none⟩) hi
    have hf := fun (i o : Nat) (hi : i < w.heap.size + 1 + 1) => hb.frozen (p := ⟨i, o, none⟩) hi
    refine ⟨?_, ?_, ?_, ?_, ?_, ?_, ?_, ?_⟩
    all_goals first | rw [hc _ _ (by omega), ← hW2] | rw [hf _ _ (by omega), ← hW2]
    all_goals simp
  have HC3 : Hid (∀ W' : World, Below (w.heap.size + 1 + 1) W2 W' → Below w.heap.size w W' ∧ w.heap.size + 1 + 1 ≤ W'.heap.size ∧ W'.cell? ⟨w.heap.size, 3, none⟩ = some (.slice a ks.length cap)) := fun W' hb => ⟨hB1.out.trans (hb.mono (by omega)), by have := hb.size; rw [HS2.out] at this; exact this, (HX1.out.keep hb (by omega)).c3⟩
  have HW2 := hide hW2
  clear hW2
  go_enter Try.func12, Try.ntmps12
  go_wp2
  go_loopw [4] (fun i wr => ∃ (k : Nat) (ts : List NdT) (v : Value), k ≤ ks.length ∧ i = .int .i64 k ∧ ts.map (·.1) = ks.take k ∧ OutN wr (w.heap.size + 1 + 1) v (.mk ra rb rc ks) ∧ GrowK wr (w.heap.size + 1 + 1 + 1) v ts wr.heap.size ∧ Below (w.heap.size + 1 + 1) W2 wr) (fun i _ => ks.length - (intOf i).toNat)
  case atStart =>
    rw [HW2.out]
    exact ⟨0, [], _, Nat.zero_le _, rfl, rfl, HO0.out, GrowK.nil _ _ (by simp [HS2.out]), (Below.refl _ _).alloc (by rw [HS2.out]; exact Nat.le_refl _) _⟩
  case round =>
    obtain ⟨k, ts, v, hk, rfl, hts, hO, hG, hbe⟩ := hrel
    obtain ⟨c0, hwr, y3⟩ := HC3.out _ hbe
    have HTL := hide (len_mapS hts hk)
    have hlt9 := hO.lt
    by_cases hlt : k < ks.length
    · obtain ⟨b, o, rfl, hb, hc⟩ := (HH.out.stays c0 hB).at (by omega)
      obtain ⟨ak, ck, hx0, hx1, hx2, hx3, hkx⟩ := hc k hlt
      clear hc
      have hcn : cntL (ks[k]).ks < K := by have := cntL_at ks k hlt; omega
      have hks : (ks[k]).szN ≤ 1048576 := by have := szL_mem ks _ (List.getElem_mem hlt); omega
      have hBw : B ≤ wr.heap.size := by omega
      have HQ := hide (HI.out ks[k] ak ck B wr hcn hkx hBw hks)
      have HTS := hide (take_mapS hts hlt)
      clear hts
      obtain ⟨av, cv, rfl⟩ := hG.slice
      have HG0 := hide hG
      clear hG
      have HO := hide hO
      clear hO
      go_wp2_with fail
      refine HQ.out.mono ?_
      rintro e w1 ⟨⟨a', c', rfl, o1⟩, b1⟩
      have hb2 := ((Below.refl w1.heap.size w1).alloc (Nat.le_refl _) (Obj.cells #[.string (ks[k]).ns, .string (ks[k]).nm, .string (ks[k]).tx, .slice a' (ks[k]).ks.length c'] 28)).alloc (by simp) (Obj.cells #[.string (ks[k]).ns, .string (ks[k]).nm, .string (ks[k]).tx, .slice a' (ks[k]).ks.length c'] 28)
      have HB2 := hide hb2
      have HG2 := hide ((HG0.out.next b1).next hb2)
      have HO2 := hide (OwnK.wide (o1.stays hb2 (fun x hx => hx.2)) (T := Ivl wr.heap.size ((w1.alloc (Obj.cells #[.string (ks[k]).ns, .string (ks[k]).nm, .string (ks[k]).tx, .slice a' (ks[k]).ks.length c'] 28)).alloc (Obj.cells #[.string (ks[k]).ns, .string (ks[k]).nm, .string (ks[k]).tx, .slice a' (ks[k]).ks.length c'] 28)).heap.size) (fun x hx => by unfold Ivl at hx ⊢; simp at hx ⊢; omega))
      have hz1 := b1.size
      have HU1 := hide (HO.out.keep b1 hlt9)
      have HU2 := hide (HU1.out.keep hb2 (by omega))
      have c6 := (hbe.trans (b1.mono hwr)).trans (hb2.mono (by omega))
      have u1 := HU1.out.c3
      have u2 := (HU1.out.keep ((Below.refl w1.heap.size w1).alloc (Nat.le_refl _) (Obj.cells #[.string (ks[k]).ns, .string (ks[k]).nm, .string (ks[k]).tx, .slice a' (ks[k]).ks.length c'] 28)) (by omega)).c3
      clear HG0 o1 b1 hb2 HQ y3
      go_wp2_with (at_builtin; refine wp_append_node rfl _ _ rfl (w.heap.size + 1 + 1 + 1) wr.heap.size _ ts rfl HG2.out _ ks[k] a' c' rfl ?c0 ?c1 ?c2 ?c3 ?c4 ?c5 ?c6 ?_)
      case c0 => simp
      case c1 => simp
      case c2 => simp
      case c3 => simp
      case c4 => have := HTL.out; omega
      case c5 => omega
      case c6 => exact HO2.out
      intro g4 cap4 w4 o4 b4
      have HU4 := hide (HU2.out.keep b4 (by omega))
      have v0 := HU4.out.c3
      have v1 := HU4.out.f3
      have G5 := hide (o4.store ⟨w.heap.size + 1 + 1, 3, none⟩ (.slice (some ⟨g4, 0, none⟩) (ts.length + 1) cap4) (by simp))
      have U5 := hide (HU4.out.set (.slice (some ⟨g4, 0, none⟩) (ts.length + 1) cap4))
      have B4 := hide ((c6.trans (b4.mono (by omega))).setCell (p := ⟨w.heap.size + 1 + 1, 3, none⟩) (by simp) (.slice (some ⟨g4, 0, none⟩) (ts.length + 1) cap4))
      clear o4 b4 HG2 HO2 u1 u2
      go_wp2
      go_roundw
      case rel => exact ⟨k + 1, _, _, by omega, by go_num, HTS.out a' c', U5.out, by have := G5.out; simpa using this, B4.out⟩
      case measure => simp [intOf]; omega
    · have htk : ks.take k = ks := List.take_of_length_le (by omega)
      rw [htk] at hts
      have hkl : ts.length = ks.length := by have := HTL.out; omega
      obtain ⟨av, cv, rfl, hown⟩ := hG.done
      rw [hts] at hown
      rw [hkl] at hO
      have HOW := hide hown
      clear hown hts htk hG hkl
      obtain ⟨_, o0, o1, o2, o3, _⟩ := hO
      simp only [Nd.ns, Nd.nm, Nd.tx] at o0 o1 o2
      obtain ⟨r0, r1, r2, r3, f0, f1, f2, f3⟩ := HR.out _ hbe
      go_wp2
      refine bodyPost_ret (v := .agg #[.string ra, .string rb, .string rc, .slice av ks.length cv]) (by simp [results, Try.results12, go_sem, r0, r1, r2, r3]) rfl ⟨⟨av, cv, rfl, ?_⟩, ?_⟩
      · refine OwnK.wide ((((HOW.out.setCell _ _ (by unfold Ivl; simp; omega)).setCell _ _ (by unfold Ivl; simp; omega)).setCell _ _ (by unfold Ivl; simp; omega)).setCell _ _ (by unfold Ivl; simp; omega)) (fun x hx => ?_)
        unfold Ivl at hx ⊢
        simp
        omega
      · exact (((c0.setCell (by simp) _).setCell (by simp) _).setCell (by simp) _).setCell (by simp) _

theorem l8Copy_all : ∀ K, CsS K := by
  intro K
  induction K with
  | zero => intro n a cap B w hn; exact absurd hn (Nat.not_lt_zero _)
  | succ K ih => exact l8Copy_step K ih
end Go.Proofs.Ytanebchmeaomgab
