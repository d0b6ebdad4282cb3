/-
  What impl.SetsNode does.
-/
import Derived.Test.YtkgdmlfdlkmojaaSetsNodeI
namespace Go.Proofs.Ytkgdmlfdlkmojaa
open Go.RowKit M
set_option linter.unusedVariables false

theorem map_take_setN {ss : List Sx} {k : Nat} (hk : k < ss.length) : (ss.take (k + 1)).map setN = (ss.take k).map setN ++ [setN ss[k]] := by
  rw [List.take_succ_eq_append_getElem hk, List.map_append]; rfl

set_option maxRecDepth 100000 in
set_option maxHeartbeats 8000000 in
theorem setsNode_any (a : Option Addr) (ss : List Sx) (cap B : Nat) (w : World) (h : Sts w B a ss) (hB : B ≤ w.heap.size) (hl : ss.length ≤ 1048576) (hs : ∀ s ∈ ss, s.2.1.size ≤ 281474976710656 ∧ s.2.2.1.size ≤ 281474976710656 ∧ s.2.2.2.size ≤ 281474976710656) :
    Calls Try.prog 33 #[.slice a ss.length cap] w fun e w' => (∃ ak ck, e = .returned (.agg #[.string davT, .string updT, .string ⟨#[]⟩, .slice ak ss.length ck]) ∧ OwnK w' ak (ss.map setN) (Ivl w.heap.size w'.heap.size)) ∧ Below w.heap.size w w' := by
  have HS := hide hs
  clear hs
  have BR := hide (Bx.made w (.string ⟨#[]⟩) (.string ⟨#[]⟩) (.string ⟨#[]⟩) (.slice none 0 0) 58)
  have HB0 := hide ((Below.refl w.heap.size w).alloc (Nat.le_refl _) (Obj.cells #[Value.string { data := #[] }, Value.string { data := #[] }, Value.string { data := #[] }, Value.slice none 0 0] 58))
  obtain ⟨wA, hwA⟩ : ∃ W, w.alloc (Obj.cells #[Value.string { data := #[] }, Value.string { data := #[] }, Value.string { data := #[] }, Value.slice none 0 0] 58) = W := ⟨_, rfl⟩
  have zA : Hid (wA.heap.size = w.heap.size + 1) := by show _ = _; rw [← hwA]; simp
  rw [hwA] at BR HB0
  have HM := hide (GrowK.made wA (w.heap.size + 1) (by rw [zA.out]; exact Nat.le_refl _))
  have HB1 := hide ((Below.refl (w.heap.size + 1) wA).alloc (by rw [zA.out]; exact Nat.le_refl _) (Obj.cells #[] 58))
  have BR1 := hide (BR.out.next HB1.out (Nat.lt_succ_self _))
  go_enter Try.func33, Try.ntmps33
  go_wp2
  clear hwA
  go_loopw [3, 9] (fun v i wr => ∃ (k lo : Nat) (ts : List NdT), k ≤ ss.length ∧ i = .int .i64 k ∧ Hid (GrowK wr (w.heap.size + 1) v ts lo) ∧ w.heap.size + 1 ≤ lo ∧ Hid (ts.map (·.1) = (ss.take k).map setN) ∧ Hid (Bx wr w.heap.size (.string ⟨#[]⟩) (.string ⟨#[]⟩) (.string ⟨#[]⟩) (.slice none 0 0)) ∧ Below (w.heap.size + 1) wA wr) (fun _ i _ => ss.length - (intOf i).toNat)
  case atStart => exact ⟨0, wA.heap.size + 1, [], Nat.zero_le _, rfl, HM, by have := zA.out; omega, rfl, BR1, HB1.out⟩
  case round =>
    obtain ⟨k, lo, ts, hk, rfl, HG, hlo, HT, BRr, hbe⟩ := hrel
    have hszr : w.heap.size + 1 ≤ wr.heap.size := by have := hbe.size; have := zA.out; omega
    by_cases hlt : k < ss.length
    · have hc0 := HB0.out.trans (hbe.mono (by omega))
      obtain ⟨b, o, rfl, hb, hc⟩ := (h.below hc0 hB) (by omega)
      obtain ⟨x0, x1, x2, x3⟩ := hc k hlt
      have hz := HS.out _ (List.getElem_mem hlt)
      have HMT := hide (map_take_setN hlt)
      have HTL := hide (show ts.length ≤ ss.length by have := congrArg List.length HT.out; rw [List.length_map, List.length_map, List.length_take] at this; omega)
      obtain ⟨s, hss⟩ : ∃ s, ss[k] = s := ⟨_, rfl⟩
      rw [hss] at x0 x1 x2 x3 hz HMT
      clear hss hc
      obtain ⟨d, p⟩ := s
      have bA := (Below.refl wr.heap.size wr).alloc (Nat.le_refl _) (Obj.cells #[.bool d, .string p.1, .string p.2.1, .string p.2.2] 38)
      have HN := hide (nodeOfSet_any d p (wr.alloc (Obj.cells #[.bool d, .string p.1, .string p.2.1, .string p.2.2] 38)) hz)
      have HG1 := hide (HG.out.next bA)
      have BA1 := hide (BRr.out.next (bA.mono (Nat.le_refl _)) (by omega))
      have HBA := hide (hbe.trans (bA.mono hszr))
      have hki : (k : Int) < (ss.length : Int) := by omega
      clear hz bA BRr
      go_wp2_with fail
      refine HN.out.mono ?_
      rintro e w2 ⟨⟨g, rfl, hK2⟩, b2⟩
      have hz2 := b2.size
      simp only [World.size_alloc] at hz2
      have b2' : Below (wr.heap.size + 1) (wr.alloc (Obj.cells #[.bool d, .string p.1, .string p.2.1, .string p.2.2] 38)) w2 := b2.mono (by simp)
      have bB := (Below.refl w2.heap.size w2).alloc (Nat.le_refl _) (Obj.cells #[.string (setN (d, p)).ns, .string (setN (d, p)).nm, .string (setN (d, p)).tx, .slice (some ⟨g, 0, none⟩) 1 1] 58)
      have HG2 := hide (((HG1.out.next b2).next bB).up (lo' := wr.heap.size + 1) (by have := HG.out.top; omega) (by simp; omega))
      have HK2 := hide (show OwnK (w2.alloc (Obj.cells #[.string (setN (d, p)).ns, .string (setN (d, p)).nm, .string (setN (d, p)).tx, .slice (some ⟨g, 0, none⟩) 1 1] 58)) (some ⟨g, 0, none⟩) (setN (d, p)).ks (Ivl (wr.heap.size + 1) (w2.alloc (Obj.cells #[.string (setN (d, p)).ns, .string (setN (d, p)).nm, .string (setN (d, p)).tx, .slice (some ⟨g, 0, none⟩) 1 1] 58)).heap.size) from (hK2.stays (C := w2.heap.size) bB (fun x hx => hx.2)).wide (fun x hx => ⟨by have := hx.1; simpa using this, by have := hx.2; simp; omega⟩))
      have BR2 := hide ((BA1.out.next b2' (by omega)).next bB (by omega))
      have HB2 := hide ((HBA.out.trans (b2'.mono (by omega))).trans (bB.mono (by omega)))
      have hlen : ts.length + 1 ≤ 1000000000 := by have := HTL.out; omega
      have hlo1 : w.heap.size + 1 ≤ wr.heap.size + 1 := by omega
      clear hK2 b2 b2' bB HG1 BA1 HBA HN
      go_wp2_with (at_builtin; refine wp_append_node rfl _ _ rfl (w.heap.size + 1) (wr.heap.size + 1) _ ts rfl HG2.out _ (setN (d, p)) (some ⟨g, 0, none⟩) 1 rfl ?_ ?_ ?_ ?_ hlen hlo1 HK2.out ?_)
      any_goals (first | (simp; done) | (simp [setN, Nd.ks]; done))
      intro g5 c5 w5 hG5 hb5
      have HG5 := hide hG5
      have BR5 := hide (BR2.out.next hb5 (Nat.lt_succ_self _))
      have HB5 := hide (HB2.out.trans (hb5.mono (Nat.le_refl _)))
      have HT5 := hide (show List.map (fun t : NdT => t.1) (ts ++ [(setN (d, p), some (⟨g, 0, none⟩ : Addr), 1)]) = (ss.take (k + 1)).map setN by rw [HMT.out, List.map_append, HT.out]; rfl)
      have hz5 := HB5.out.size
      clear hG5 hb5 HG2 HK2
      go_wp2
      go_roundw
      case rel => exact ⟨k + 1, _, _, by omega, by go_num, HG5, by have := zA.out; omega, HT5, BR5, HB5.out⟩
      case measure => simp [intOf]; omega
    · obtain ⟨ak, ck, hv, hO⟩ := HG.out.done
      subst hv
      have HE := hide (show ts.map (·.1) = ss.map setN by rw [HT.out, List.take_of_length_le (by omega)])
      rw [HE.out] at hO
      have hll : ts.length = ss.length := by have := congrArg List.length HE.out; simpa using this
      rw [hll]
      have HD := hide (davNode_any updT ak ss.length ck wr)
      have HO := hide hO
      have HBW := hide (HB0.out.trans (hbe.mono (by omega)))
      clear hO hll HE HG
      go_wp2_with fail
      refine HD.out.mono ?_
      rintro e w2 ⟨rfl, b2⟩
      obtain ⟨_, r0, r1, r2, r3, rz⟩ := BRr.out.next b2 (by omega)
      have HO2 := hide (HO.out.stays (C := wr.heap.size) b2 (fun x hx => hx.2))
      have HB2 := hide (HBW.out.trans (b2.mono HBW.out.size))
      have hz2 := b2.size
      clear b2 HD HO
      go_wp2
      refine bodyPost_ret (v := .agg #[.string davT, .string updT, .string ⟨#[]⟩, .slice ak ss.length ck]) (by simp [results, Try.results33, go_sem, r0, r1, r2, r3]) rfl ⟨⟨ak, ck, rfl, ?_⟩, ?_⟩
      · refine ((((HO2.out.setC _ ?_).setC _ ?_).setC _ ?_).setC _ ?_).wide (fun x hx => ⟨by have := hx.1; omega, by have := hx.2; simp; omega⟩)
        all_goals exact fun x hx e => by have := hx.1; omega
      · exact (((HB2.out.setCell (Nat.le_refl _) _).setCell (Nat.le_refl _) _).setCell (Nat.le_refl _) _).setCell (Nat.le_refl _) _
end Go.Proofs.Ytkgdmlfdlkmojaa
