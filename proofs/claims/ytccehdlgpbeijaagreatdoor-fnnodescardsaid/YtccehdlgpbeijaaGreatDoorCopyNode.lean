/-
  What the program's copyNode does: a tree of blocks of its own.
-/
import Derived.Test.YtccehdlgpbeijaaGreatDoorNodeR
import Derived.Deep.RegionHeld3
namespace Go.Proofs.YtccehdlgpbeijaaGreatDoor
open Go.RowKit M
set_option linter.unusedVariables false

theorem take_mapN {ks : List Nd} {ts : List NdT} {k : Nat} (h : ts.map (·.1) = ks.take k) (hk : k < ks.length) (a : Option Addr) (c : Nat) : (ts ++ [(ks[k], a, c)]).map (·.1) = ks.take (k + 1) := by
  rw [List.map_append, h, List.take_add_one, List.getElem?_eq_getElem hk]
  rfl
theorem len_mapN {ks : List Nd} {ts : List NdT} {k : Nat} (h : ts.map (·.1) = ks.take k) (hk : k ≤ ks.length) : ts.length = k := by
  have := congrArg List.length h
  rw [List.length_map, List.length_take] at this
  omega

/-- What a cell holds. -/
def valAt (w : World) (p : Addr) : Value := (w.cell? p).getD .nilFunc
theorem valAt_of {w : World} {p : Addr} (h : (w.cell? p).isSome = true) : w.cell? p = some (valAt w p) := by
  unfold valAt
  obtain ⟨v, hv⟩ := Option.isSome_iff_exists.1 h
  rw [hv]; rfl
theorem some_set {w : World} {p q : Addr} {x : Value} (h : (w.cell? q).isSome = true) : ((w.setCell p x).cell? q).isSome = true := by
  by_cases e : p = q
  · subst e
    obtain ⟨u, hu⟩ := Option.isSome_iff_exists.1 h
    rw [World.cell?_setCell_same _ _ _ hu]; rfl
  · rw [World.cell?_setCell_other _ _ _ _ e]; exact h
theorem put_cells {w : World} {b r : Nat} {x0 x1 x2 x3 u0 u1 u2 u3 : Value} {v0 v1 v2 : Value} (hne : b ≠ r)
    (h : w.cell? ⟨b, 0, none⟩ = some v0 ∧ w.cell? ⟨b, 1, none⟩ = some v1 ∧ w.cell? ⟨b, 2, none⟩ = some v2 ∧ w.cell? ⟨r, 0, none⟩ = some u0 ∧ w.cell? ⟨r, 1, none⟩ = some u1 ∧ w.cell? ⟨r, 2, none⟩ = some u2 ∧ w.cell? ⟨r, 3, none⟩ = some u3 ∧ w.frozen? ⟨r, 0, none⟩ = false ∧ w.frozen? ⟨r, 1, none⟩ = false ∧ w.frozen? ⟨r, 2, none⟩ = false ∧ w.frozen? ⟨r, 3, none⟩ = false) :
    ((((w.setCell ⟨r, 0, none⟩ x0).setCell ⟨r, 1, none⟩ x1).setCell ⟨r, 2, none⟩ x2).setCell ⟨r, 3, none⟩ x3).cell? ⟨b, 0, none⟩ = some v0 ∧ ((((w.setCell ⟨r, 0, none⟩ x0).setCell ⟨r, 1, none⟩ x1).setCell ⟨r, 2, none⟩ x2).setCell ⟨r, 3, none⟩ x3).cell? ⟨b, 1, none⟩ = some v1 ∧ ((((w.setCell ⟨r, 0, none⟩ x0).setCell ⟨r, 1, none⟩ x1).setCell ⟨r, 2, none⟩ x2).setCell ⟨r, 3, none⟩ x3).cell? ⟨b, 2, none⟩ = some v2 ∧ ((((w.setCell ⟨r, 0, none⟩ x0).setCell ⟨r, 1, none⟩ x1).setCell ⟨r, 2, none⟩ x2).setCell ⟨r, 3, none⟩ x3).cell? ⟨r, 0, none⟩ = some (valAt ((((w.setCell ⟨r, 0, none⟩ x0).setCell ⟨r, 1, none⟩ x1).setCell ⟨r, 2, none⟩ x2).setCell ⟨r, 3, none⟩ x3) ⟨r, 0, none⟩) ∧ ((((w.setCell ⟨r, 0, none⟩ x0).setCell ⟨r, 1, none⟩ x1).setCell ⟨r, 2, none⟩ x2).setCell ⟨r, 3, none⟩ x3).cell? ⟨r, 1, none⟩ = some (valAt ((((w.setCell ⟨r, 0, none⟩ x0).setCell ⟨r, 1, none⟩ x1).setCell ⟨r, 2, none⟩ x2).setCell ⟨r, 3, none⟩ x3) ⟨r, 1, none⟩) ∧ ((((w.setCell ⟨r, 0, none⟩ x0).setCell ⟨r, 1, none⟩ x1).setCell ⟨r, 2, none⟩ x2).setCell ⟨r, 3, none⟩ x3).cell? ⟨r, 2, none⟩ = some (valAt ((((w.setCell ⟨r, 0, none⟩ x0).setCell ⟨r, 1, none⟩ x1).setCell ⟨r, 2, none⟩ x2).setCell ⟨r, 3, none⟩ x3) ⟨r, 2, none⟩) ∧ ((((w.setCell ⟨r, 0, none⟩ x0).setCell ⟨r, 1, none⟩ x1).setCell ⟨r, 2, none⟩ x2).setCell ⟨r, 3, none⟩ x3).cell? ⟨r, 3, none⟩ = some (valAt ((((w.setCell ⟨r, 0, none⟩ x0).setCell ⟨r, 1, none⟩ x1).setCell ⟨r, 2, none⟩ x2).setCell ⟨r, 3, none⟩ x3) ⟨r, 3, none⟩) ∧ ((((w.setCell ⟨r, 0, none⟩ x0).setCell ⟨r, 1, none⟩ x1).setCell ⟨r, 2, none⟩ x2).setCell ⟨r, 3, none⟩ x3).frozen? ⟨r, 0, none⟩ = false ∧ ((((w.setCell ⟨r, 0, none⟩ x0).setCell ⟨r, 1, none⟩ x1).setCell ⟨r, 2, none⟩ x2).setCell ⟨r, 3, none⟩ x3).frozen? ⟨r, 1, none⟩ = false ∧ ((((w.setCell ⟨r, 0, none⟩ x0).setCell ⟨r, 1, none⟩ x1).setCell ⟨r, 2, none⟩ x2).setCell ⟨r, 3, none⟩ x3).frozen? ⟨r, 2, none⟩ = false ∧ ((((w.setCell ⟨r, 0, none⟩ x0).setCell ⟨r, 1, none⟩ x1).setCell ⟨r, 2, none⟩ x2).setCell ⟨r, 3, none⟩ x3).frozen? ⟨r, 3, none⟩ = false := by
  obtain ⟨h0, h1, h2, h3, h4, h5, h6, h7, h8, h9, h10⟩ := h
  have hn : ∀ (o i : Nat) (x : Value) (w : World), (w.setCell ⟨r, i, none⟩ x).cell? ⟨b, o, none⟩ = w.cell? ⟨b, o, none⟩ := fun o i x w => World.cell?_setCell_other _ _ _ _ (fun e => hne (by have := congrArg Addr.block e; simp at this; exact this.symm))
  have hf : ∀ (o i : Nat) (x : Value) (w : World), (w.setCell ⟨r, i, none⟩ x).frozen? ⟨r, o, none⟩ = w.frozen? ⟨r, o, none⟩ := fun o i x w => by simp
  have hs : ∀ (o i : Nat) (x : Value) (w : World), (w.cell? ⟨r, o, none⟩).isSome = true → ((w.setCell ⟨r, i, none⟩ x).cell? ⟨r, o, none⟩).isSome = true := fun o i x w h => some_set h
  refine ⟨?_, ?_, ?_, valAt_of ?_, valAt_of ?_, valAt_of ?_, valAt_of ?_, ?_, ?_, ?_, ?_⟩
  · rw [hn, hn, hn, hn]; exact h0
  · rw [hn, hn, hn, hn]; exact h1
  · rw [hn, hn, hn, hn]; exact h2
  · exact hs _ _ _ _ (hs _ _ _ _ (hs _ _ _ _ (hs _ _ _ _ (by rw [h3]; rfl))))
  · exact hs _ _ _ _ (hs _ _ _ _ (hs _ _ _ _ (hs _ _ _ _ (by rw [h4]; rfl))))
  · exact hs _ _ _ _ (hs _ _ _ _ (hs _ _ _ _ (hs _ _ _ _ (by rw [h5]; rfl))))
  · exact hs _ _ _ _ (hs _ _ _ _ (hs _ _ _ _ (hs _ _ _ _ (by rw [h6]; rfl))))
  · rw [hf, hf, hf, hf]; exact h7
  · rw [hf, hf, hf, hf]; exact h8
  · rw [hf, hf, hf, hf]; exact h9
  · rw [hf, hf, hf, hf]; exact h10

def CpS (K : Nat) : Prop := ∀ (n : Nd) (a : Option Addr) (cap B : Nat) (w : World), cntL n.ks < K → Nds w B a n.ks → B ≤ w.heap.size → n.szN ≤ 1048576 →
    Calls Tryz.prog 36 #[.agg #[.string n.ns, .string n.nm, .string n.tx, .slice a n.ks.length cap]] w fun e w' => (∃ (a' : Option Addr) (c' : Nat), e = .returned (.agg #[.string n.ns, .string n.nm, .string n.tx, .slice a' n.ks.length c']) ∧ OwnK w' a' n.ks (Ivl w.heap.size w'.heap.size)) ∧ Below w.heap.size w w'

set_option maxRecDepth 100000 in
set_option maxHeartbeats 4000000 in
theorem copyNode_step (K : Nat) (ih : CpS K) : CpS (K + 1) := by
  intro n a cap B w hn h hB hs
  have HI : Hid (CpS K) := ih
  clear ih
  rw [szN_ks] at hs
  have HX0 := hide (BoxN.made w a cap n 26)
  have HX1 := hide (HX0.out.alloc (Obj.cells #[Value.string { data := #[] }, Value.string { data := #[] }, Value.string { data := #[] }, Value.slice none 0 0] 26))
  obtain ⟨ra, rb, rc, ks⟩ := n
  simp only [Nd.ns, Nd.nm, Nd.tx, Nd.ks] at *
  have HH := hide h
  clear h
  have hB1 : Hid (Below w.heap.size w ((w.alloc (Obj.cells #[Value.string ra, Value.string rb, Value.string rc, Value.slice a ks.length cap] 26)).alloc (Obj.cells #[Value.string { data := #[] }, Value.string { data := #[] }, Value.string { data := #[] }, Value.slice none 0 0] 26))) := ((Below.refl _ _).alloc (Nat.le_refl _) _).alloc (by simp) _
  have hG0 := GrowK.made ((w.alloc (Obj.cells #[Value.string ra, Value.string rb, Value.string rc, Value.slice a ks.length cap] 26)).alloc (Obj.cells #[Value.string { data := #[] }, Value.string { data := #[] }, Value.string { data := #[] }, Value.slice none 0 0] 26)) (w.heap.size + 1 + 1) (by simp)
  have hs2 : ((w.alloc (Obj.cells #[Value.string ra, Value.string rb, Value.string rc, Value.slice a ks.length cap] 26)).alloc (Obj.cells #[Value.string { data := #[] }, Value.string { data := #[] }, Value.string { data := #[] }, Value.slice none 0 0] 26)).heap.size = w.heap.size + 1 + 1 := by simp
  rw [hs2] at hG0
  have HG0 := hide hG0
  clear hG0
  obtain ⟨W2, hW2⟩ : ∃ W2, ((w.alloc (Obj.cells #[Value.string ra, Value.string rb, Value.string rc, Value.slice a ks.length cap] 26)).alloc (Obj.cells #[Value.string { data := #[] }, Value.string { data := #[] }, Value.string { data := #[] }, Value.slice none 0 0] 26)) = W2 := ⟨_, rfl⟩
  have HW2 := hide hW2
  rw [hW2] at HX1 hB1 HG0 hs2
  clear hW2
  have HS2 := hide hs2
  have HP : Hid (∀ W' : World, Below (w.heap.size + 1 + 1) W2 W' → W'.cell? ⟨w.heap.size, 0, none⟩ = some (.string ra) ∧ W'.cell? ⟨w.heap.size, 1, none⟩ = some (.string rb) ∧ W'.cell? ⟨w.heap.size, 2, none⟩ = some (.string rc) ∧ W'.cell? ⟨w.heap.size + 1, 0, none⟩ = some (valAt W' ⟨w.heap.size + 1, 0, none⟩) ∧ W'.cell? ⟨w.heap.size + 1, 1, none⟩ = some (valAt W' ⟨w.heap.size + 1, 1, none⟩) ∧ W'.cell? ⟨w.heap.size + 1, 2, none⟩ = some (valAt W' ⟨w.heap.size + 1, 2, none⟩) ∧ W'.cell? ⟨w.heap.size + 1, 3, none⟩ = some (valAt W' ⟨w.heap.size + 1, 3, none⟩) ∧ W'.frozen? ⟨w.heap.size + 1, 0, none⟩ = false ∧ W'.frozen? ⟨w.heap.size + 1, 1, none⟩ = false ∧ W'.frozen? ⟨w.heap.size + 1, 2, none⟩ = false ∧ W'.frozen? ⟨w.heap.size + 1, 3, none⟩ = false) := fun W' hb => by
    have hc := fun (i o : Nat) (hi : i < w.heap.size + 1 + 1) => hb.cell (p := ⟨i, o, none⟩) hi
    have hf := fun (i o : Nat) (hi : i < w.heap.size + 1 + 1) => hb.frozen (p := ⟨i, o, none⟩) hi
    refine ⟨?_, ?_, ?_, valAt_of ?_, valAt_of ?_, valAt_of ?_, valAt_of ?_, ?_, ?_, ?_, ?_⟩
    all_goals first | rw [hc _ _ (by omega), ← HW2.out] | rw [hf _ _ (by omega), ← HW2.out]
    all_goals simp
  have HC3 : Hid (∀ W' : World, Below (w.heap.size + 1 + 1) W2 W' → Below w.heap.size w W' ∧ w.heap.size + 1 + 1 ≤ W'.heap.size) := fun W' hb => ⟨hB1.out.trans (hb.mono (by omega)), by have := hb.size; rw [HS2.out] at this; exact this⟩
  clear hs2
  go_enter Tryz.func36, Tryz.ntmps36
  go_wp2
  go_loopw [3, 10] (fun kv i wr => ∃ (k : Nat) (ts : List NdT), k ≤ ks.length ∧ i = .int .i64 k ∧ ts.map (·.1) = ks.take k ∧ GrowK wr (w.heap.size + 1 + 1) kv ts wr.heap.size ∧ Below (w.heap.size + 1 + 1) W2 wr) (fun _ i _ => ks.length - (intOf i).toNat)
  case atStart =>
    rw [HW2.out]
    exact ⟨0, [], Nat.zero_le _, rfl, rfl, HG0.out.up (Nat.le_refl _) (by simp [HS2.out]) |> fun g => g.up (by simp [HS2.out]) (Nat.le_refl _), (Below.refl _ _).alloc (by rw [HS2.out]; exact Nat.le_refl _) _⟩
  case round =>
    obtain ⟨k, ts, hk, rfl, hts, hG, hbe⟩ := hrel
    obtain ⟨c0, hwr⟩ := HC3.out _ hbe
    have HTL := hide (len_mapN hts hk)
    by_cases hlt : k < ks.length
    · obtain ⟨b, o, rfl, hb, hc⟩ := (HH.out.stays c0 hB).at (by omega)
      obtain ⟨ak, ck, hx0, hx1, hx2, hx3, hkx⟩ := hc k hlt
      clear hc
      have hcn : cntL (ks[k]).ks < K := by have := cntL_at ks k hlt; omega
      have hks : (ks[k]).szN ≤ 1048576 := by have := szL_mem ks _ (List.getElem_mem hlt); omega
      have HBA := hide ((Below.refl wr.heap.size wr).alloc (Nat.le_refl _) (Obj.cells #[.string (ks[k]).ns, .string (ks[k]).nm, .string (ks[k]).tx, .slice ak (ks[k]).ks.length ck] 26))
      have hBw : B ≤ wr.heap.size := by omega
      have HQ := hide (HI.out ks[k] ak ck B _ hcn (hkx.stays HBA.out hBw) (Nat.le_trans hBw HBA.out.size) hks)
      have HTS := hide (take_mapN hts hlt)
      clear hts
      obtain ⟨av, cv, rfl⟩ := hG.slice
      have HG1 := hide (hG.next HBA.out)
      clear hG
      have c5 := hbe.trans (HBA.out.mono hwr)
      go_wp2_with fail
      refine HQ.out.mono ?_
      rintro e w1 ⟨⟨a', c', rfl, o1⟩, b1⟩
      have HG2 := hide ((HG1.out.next b1).next ((Below.refl w1.heap.size w1).alloc (Nat.le_refl _) (Obj.cells #[.string (ks[k]).ns, .string (ks[k]).nm, .string (ks[k]).tx, .slice a' (ks[k]).ks.length c'] 26)))
      have HO2 := hide (OwnK.wide (o1.stays ((Below.refl w1.heap.size w1).alloc (Nat.le_refl _) (Obj.cells #[.string (ks[k]).ns, .string (ks[k]).nm, .string (ks[k]).tx, .slice a' (ks[k]).ks.length c'] 26)) (fun x hx => hx.2)) (T := Ivl wr.heap.size (w1.alloc (Obj.cells #[.string (ks[k]).ns, .string (ks[k]).nm, .string (ks[k]).tx, .slice a' (ks[k]).ks.length c'] 26)).heap.size) (fun x hx => by unfold Ivl at hx ⊢; simp at hx ⊢; omega))
      have c6 := (c5.trans (b1.mono (by have := HBA.out.size; omega)))
      have hz6 := (HC3.out _ c6).2
      clear HG1 o1 b1
      go_wp2_with (at_builtin; refine wp_append_node rfl _ _ rfl (w.heap.size + 1 + 1) wr.heap.size _ ts rfl HG2.out _ ks[k] a' c' rfl ?c0 ?c1 ?c2 ?c3 ?c4 ?c5 ?c6 ?_)
      case c0 => simp
      case c1 => simp
      case c2 => simp
      case c3 => simp
      case c4 => have := HTL.out; omega
      case c5 => exact hwr
      case c6 => exact HO2.out
      intro g4 cap4 w4 o4 b4
      have O4 := hide o4
      have B4 := hide ((c6.alloc (by omega) (Obj.cells #[.string (ks[k]).ns, .string (ks[k]).nm, .string (ks[k]).tx, .slice a' (ks[k]).ks.length c'] 26)).trans b4)
      clear o4 b4 HG2 HO2
      go_wp2
      go_roundw
      case rel => exact ⟨k + 1, _, by omega, by go_num, HTS.out a' c', O4.out, B4.out⟩
      case measure => simp [intOf]; omega
    · have htk : ks.take k = ks := List.take_of_length_le (by omega)
      rw [htk] at hts
      have hkl : ts.length = ks.length := by have := HTL.out; omega
      obtain ⟨av, cv, rfl, hown⟩ := hG.done
      rw [hts] at hown
      have HOW := hide hown
      clear hown hts htk hG
      have hbd := below_drewN hbe
      have K0 := hide (HP.out _ hbd)
      have h1 : ra.size ≤ 281474976710656 := by omega
      have h2 : rb.size ≤ 281474976710656 := by omega
      have h3 : rc.size ≤ 281474976710656 := by omega
      have HQ1 := hide (clone_any ra wr.drew h1)
      have HWD : Hid (w.heap.size + 1 + 1 ≤ wr.drew.heap.size) := hwr
      rw [hkl]
      go_wp2
      go_region_held3 (fun W => W.cell? ⟨w.heap.size, 0, none⟩ = some (.string ra) ∧ W.cell? ⟨w.heap.size, 1, none⟩ = some (.string rb) ∧ W.cell? ⟨w.heap.size, 2, none⟩ = some (.string rc) ∧ W.cell? ⟨w.heap.size + 1, 0, none⟩ = some (valAt W ⟨w.heap.size + 1, 0, none⟩) ∧ W.cell? ⟨w.heap.size + 1, 1, none⟩ = some (valAt W ⟨w.heap.size + 1, 1, none⟩) ∧ W.cell? ⟨w.heap.size + 1, 2, none⟩ = some (valAt W ⟨w.heap.size + 1, 2, none⟩) ∧ W.cell? ⟨w.heap.size + 1, 3, none⟩ = some (valAt W ⟨w.heap.size + 1, 3, none⟩) ∧ W.frozen? ⟨w.heap.size + 1, 0, none⟩ = false ∧ W.frozen? ⟨w.heap.size + 1, 1, none⟩ = false ∧ W.frozen? ⟨w.heap.size + 1, 2, none⟩ = false ∧ W.frozen? ⟨w.heap.size + 1, 3, none⟩ = false) (first | exact K0.out | exact K1.out | exact K2.out | exact K3.out | exact put_cells (by omega) K3.out) (first
        | (go_at_call_of 58 (Value.string ra); refine HQ1.out.mono ?_; rintro e w1 ⟨rfl, b1⟩; have c1 := hbd.trans (b1.mono HWD.out); have K1 := hide (HP.out _ c1))
        | (go_at_call_of 58 (Value.string rb); refine (clone_any rb w1 h2).mono ?_; rintro e w2 ⟨rfl, b2⟩; have c2 := c1.trans (b2.mono (HC3.out _ c1).2); have K2 := hide (HP.out _ c2))
        | (go_at_call_of 58 (Value.string rc); refine (clone_any rc w2 h3).mono ?_; rintro e w3 ⟨rfl, b3⟩; have c3 := c2.trans (b3.mono (HC3.out _ c2).2); have K3 := hide (HP.out _ c3)))
      all_goals
        have z1 := b1.size
        have z2 := b2.size
        have z3 := b3.size
        have zd : wr.drew.heap.size = wr.heap.size := rfl
        obtain ⟨_, _, _, k0, k1, k2, k3, _, _, _, _⟩ := K3.out
        have HO3 := hide ((((HOW.out.keep (w' := wr.drew) (fun _ _ _ => rfl) (fun _ _ _ => rfl)).stays b1 (fun x hx => hx.2)).stays b2 (fun x hx => Nat.lt_of_lt_of_le hx.2 z1)).stays b3 (fun x hx => by have := hx.2; omega))
        have HC9 := hide (HC3.out _ c3).1
        clear b1 b2 b3 c1 c2 K0 K1 K2 HQ1
        go_wp2
        refine bodyPost_ret (v := .agg #[.string ra, .string rb, .string rc, .slice av ks.length cv]) (by simp [results, Tryz.results36, go_sem, k0, k1, k2, k3]) rfl ⟨⟨av, cv, rfl, ?_⟩, ?_⟩
        · refine OwnK.wide ((((HO3.out.setCell _ _ (by unfold Ivl; simp; omega)).setCell _ _ (by unfold Ivl; simp; omega)).setCell _ _ (by unfold Ivl; simp; omega)).setCell _ _ (by unfold Ivl; simp; omega)) (fun x hx => ?_)
          unfold Ivl at hx ⊢
          simp
          omega
        · exact (((HC9.out.setCell (by simp) _).setCell (by simp) _).setCell (by simp) _).setCell (by simp) _

theorem copyNode_all : ∀ K, CpS K := by
  intro K
  induction K with
  | zero => intro n a cap B w hn; exact absurd hn (Nat.not_lt_zero _)
  | succ K ih => exact copyNode_step K ih
end Go.Proofs.YtccehdlgpbeijaaGreatDoor
