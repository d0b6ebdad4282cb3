/-
  What the specification's PutReq does.
-/
import Derived.Test.YthcaedgegmnopaaDoorSpecL3Put
import Derived.Test.YthcaedgegmnopaaDoorSpecNum
namespace Go.Proofs.YthcaedgegmnopaaDoor
open Go.RowKit M
set_option linter.unusedVariables false

set_option maxHeartbeats 2000000 in
theorem specPutReq_any (a : Option Addr) (r : Rq) (cap B : Nat) (w : World) (h : Hds w B a r.hs) (hB : B ≤ w.heap.size) (hsh : ShortR r) (hl : r.hs.length ≤ 1048576) (hsum : sumH r.hs ≤ 1048576) (h1 : r.m.size ≤ 1048576) (h2 : r.p.size ≤ 1048576) (h4 : r.b.size ≤ 1048576) :
    Calls Tryd.prog 17 #[.agg #[.string r.m, .string r.p, .slice a r.hs.length cap, .string r.b]] w fun e w' => (∃ (g c : Nat), e = .returned (.slice (some ⟨g, 0, none⟩) (putL r).length c) ∧ Byt w' w'.heap.size (some ⟨g, 0, none⟩) (putL r)) ∧ Below w.heap.size w w' := by
  have HB0 : Hid (Below w.heap.size w (w.alloc (Obj.cells #[Value.string r.m, Value.string r.p, Value.slice a r.hs.length cap, Value.string r.b] 42))) := (Below.refl _ _).alloc (Nat.le_refl _) _
  have HX0 := hide (BoxR.made w a cap r 42)
  have HH := hide h
  have HS := hide hsh
  clear h hsh
  by_cases hb : r.b.size = 0
  · have hz : r.b.toList.isEmpty = true := by
      rw [ByteArray.toList_eq]
      have e : r.b.data.toList.length = r.b.size := Array.length_toList
      cases hq : r.b.data.toList with
      | nil => rfl
      | cons _ _ => rw [hq] at e; simp at e; omega
    go_enter Tryd.func17, Tryd.ntmps17
    have HE : Hid (putL r = put0 r (⟨#[]⟩ : ByteArray).data.toList (⟨#[]⟩ : ByteArray).data.toList) := by
      show putL r = _
      have e2 : r.b.data.toList = [] := by
        have e : r.b.data.toList.length = r.b.size := Array.length_toList
        exact List.length_eq_zero_iff.1 (by omega)
      unfold putL bodyLine
      rw [if_pos hb, e2]
    clear hb
    have hP := l3Put_any a r cap B ⟨#[]⟩ ⟨#[]⟩ _ (HH.out.below HB0.out hB) (Nat.le_trans hB HB0.out.size) HS.out hl hsum h1 h2 (by decide) (by decide)
    rw [← HE.out] at hP
    go_wp2_with fail
    refine hP.mono ?_
    rintro e w2 ⟨⟨g, c, rfl, y2⟩, b2⟩
    have c2 := HB0.out.trans (b2.mono HB0.out.size)
    clear hP
    go_wp2
    go_ret
    exact ⟨⟨g, c, rfl, y2⟩, c2⟩
  · have hz : r.b.toList.isEmpty = false := by
      rw [ByteArray.toList_eq]
      have e : r.b.data.toList.length = r.b.size := Array.length_toList
      cases hq : r.b.data.toList with
      | nil => rw [hq] at e; simp at e; omega
      | cons _ _ => rfl
    have HE : Hid (putL r = put0 r (lenLine r.b.size) r.b.data.toList) := by
      show putL r = _
      unfold putL bodyLine
      rw [if_neg hb]
    have hN := fun W => specNumText_pos r.b.size W (by omega)
    have hd20 := dec_len r.b.size h4
    obtain ⟨d, hd⟩ : ∃ d, (⟨(Lib.decDigits r.b.size).toArray⟩ : ByteArray) = d := ⟨_, rfl⟩
    have hdz : d.size ≤ 20 := by rw [← hd]; exact hd20
    have HL : Hid ((⟨#[99, 111, 110, 116, 101, 110, 116, 45, 108, 101, 110, 103, 116, 104, 58, 32]⟩ : ByteArray) ++ d ++ ⟨#[13, 10]⟩ = bytesOf (lenLine r.b.size)) := by rw [← hd]; exact len_line r.b.size
    rw [hd] at hN
    have HN := hide hN
    clear hb hd hN hd20
    go_enter Tryd.func17, Tryd.ntmps17
    have hq1 : ¬ (9223372036854775807 < 16 + d.size) := by omega
    have hq2 : ¬ (9223372036854775807 < 16 + d.size + 2) := by omega
    have hbz : (r.b.size : Int) ≤ 1048576 := by omega
    have BX0d := hide HX0.out.drew
    have C0d := hide (below_drew HB0.out)
    have K0 := hide (keep4 BX0d.out)
    obtain ⟨ln, hln⟩ : ∃ ln, (⟨#[99, 111, 110, 116, 101, 110, 116, 45, 108, 101, 110, 103, 116, 104, 58, 32]⟩ : ByteArray) ++ d ++ ⟨#[13, 10]⟩ = ln := ⟨_, rfl⟩
    have hlz : ln.size ≤ 1048576 := by
      rw [← hln, ByteArray.size_append, ByteArray.size_append]
      have e1 : (⟨#[99, 111, 110, 116, 101, 110, 116, 45, 108, 101, 110, 103, 116, 104, 58, 32]⟩ : ByteArray).size = 16 := rfl
      have e3 : (⟨#[13, 10]⟩ : ByteArray).size = 2 := rfl
      omega
    have HLn : Hid (ln.data.toList = lenLine r.b.size) := by show ln.data.toList = _; rw [← hln, HL.out]; rfl
    have hP : ∀ W, Below w.heap.size w W → Calls Tryd.prog 47 #[.agg #[.string r.m, .string r.p, .slice a r.hs.length cap, .string r.b], .string ln, .string r.b] W fun e w' => (∃ (g c : Nat), e = .returned (.slice (some ⟨g, 0, none⟩) (putL r).length c) ∧ Byt w' w'.heap.size (some ⟨g, 0, none⟩) (putL r)) ∧ Below W.heap.size W w' := by
      intro W hW
      have h := l3Put_any a r cap B ln r.b W (HH.out.below hW hB) (Nat.le_trans hB hW.size) HS.out hl hsum h1 h2 hlz (by omega)
      rw [HLn.out, ← HE.out] at h
      exact h
    have HP := hide hP
    clear hP
    go_wp2
    go_region_held3 (fun W => W.cell? ⟨w.heap.size, 0, none⟩ = some (.string r.m) ∧ W.cell? ⟨w.heap.size, 1, none⟩ = some (.string r.p) ∧ W.cell? ⟨w.heap.size, 2, none⟩ = some (.slice a r.hs.length cap) ∧ W.cell? ⟨w.heap.size, 3, none⟩ = some (.string r.b)) (first | exact K0.out | exact K1.out | exact K2.out) (first
      | (go_at_call 48; refine (HN.out _).mono ?_; rintro e w1 ⟨rfl, b1⟩; have c1 := C0d.out.trans (b1.mono C0d.out.size); have BX1 := hide (BX0d.out.next b1); have K1 := hide (keep4 BX1.out))
      | (go_at_call 47; refine (HP.out w1 c1).mono ?_; rintro e w2 ⟨⟨g, c, rfl, y2⟩, b2⟩; have c2 := c1.trans (b2.mono c1.size); have BX2 := hide (BX1.out.next b2); have K2 := hide (keep4 BX2.out)))
    all_goals
      go_wp2
      go_ret
      exact ⟨⟨g, c, rfl, y2⟩, c2⟩
end Go.Proofs.YthcaedgegmnopaaDoor
