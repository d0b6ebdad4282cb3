/-
  What the specification's ParseTags does.
-/
import Derived.Test.YtccehdlgpbeijaaDoorSpecTag
namespace Go.Proofs.YtccehdlgpbeijaaDoor
open Go.RowKit M
set_option linter.unusedVariables false

theorem addH_le (p : List UInt8) (L : List (List UInt8)) (n : Nat) (h : ∀ x ∈ L, x.length ≤ n) : ∀ x ∈ addH p L, x.length ≤ p.length + n := by
  intro x hx
  cases L with
  | nil => simp [addH] at hx; subst hx; omega
  | cons y q =>
    rcases List.mem_cons.1 hx with rfl | hx
    · have := h y (by simp); rw [List.length_append]; omega
    · have := h x (by simp [hx]); omega
theorem spq_le : ∀ (l : List UInt8) (b : Bool), ∀ x ∈ spq b l, x.length ≤ l.length
  | [], b, x, hx => by simp [spq] at hx; simp [hx]
  | c :: r, b, x, hx => by
    rw [spq] at hx
    split at hx
    · rcases List.mem_cons.1 hx with rfl | hx
      · simp
      · have := spq_le r false x hx; simp; omega
    · have := addH_le [c] _ r.length (fun y hy => spq_le r _ y hy) x hx
      simp at this ⊢; omega
theorem addH_len (p : List UInt8) (L : List (List UInt8)) (h : L ≠ []) : (addH p L).length = L.length := by
  cases L with
  | nil => exact absurd rfl h
  | cons y q => rfl
theorem spq_len : ∀ (l : List UInt8) (b : Bool), (spq b l).length ≤ l.length + 1
  | [], b => by simp [spq]
  | c :: r, b => by
    rw [spq]
    split
    · have := spq_len r false; simp; omega
    · rw [addH_len _ _ (spq_ne _ _)]
      have := spq_len r (if c = 34 then !b else b); simp; omega
theorem trim_le (l : List UInt8) : (trimL l).length ≤ l.length := by
  obtain ⟨b1, b2, _, _, e⟩ := trim_parts l
  have := congrArg List.length e
  rw [List.length_append, List.length_append] at this
  omega
theorem OwnS.one (w : World) (x : ByteArray) (T : TypeId) : OwnS (w.alloc (.cells #[.string x] T)) w.heap.size (.slice (some ⟨w.heap.size, 0, none⟩) 1 1) [x] :=
  ⟨w.heap.size, 1, rfl, Nat.le_refl _, by unfold maxLen; decide, Nat.le_refl _, by simp, fun j hj => by
    have : j = 0 := by simpa using hj
    subst this
    exact ⟨by simp, World.frozen?_alloc_new w _ _ 0⟩⟩
theorem OwnS.none9 (w : World) (B : Nat) (hB : B ≤ w.heap.size) : OwnS (w.alloc (.cells #[] 9)) B (.slice (some ⟨w.heap.size, 0, none⟩) 0 0) [] := OwnS.made w B hB _ _
theorem star_iff (s : ByteArray) : (s.toList == [42]) = decide (s.data.toList = [42]) := by
  rw [ByteArray.toList_eq]
  by_cases h : s.data.toList = [42]
  · simp [h]
  · simp [h]
theorem all_snoc (ps : List (List UInt8)) (k : Nat) (hk : k < ps.length) (h : ((ps.take k).map trimL).all tagB = true) (h1 : tagB (trimL ps[k]) = true) : ((ps.take (k + 1)).map trimL).all tagB = true := by
  rw [List.take_succ_eq_append_getElem hk, List.map_append, List.all_append, h]
  simp [h1]
theorem all_not (ps : List (List UInt8)) (k : Nat) (hk : k < ps.length) (h1 : tagB (trimL ps[k]) = false) : ¬ ((ps.map trimL).all tagB = true) := by
  intro h
  rw [List.all_eq_true] at h
  have := h (trimL ps[k]) (List.mem_map_of_mem (List.getElem_mem hk))
  rw [h1] at this
  cases this
theorem map_tgS (ps : List (List UInt8)) : ps.map tgS = (ps.map trimL).map bytesOf := by rw [List.map_map]; rfl

/-- What ParseTags gives. -/
def TagRet (w : World) (l : List UInt8) (e : Ending) (w' : World) : Prop := ∃ v, e = .returned (.tuple #[v, .bool (tagsR l).2]) ∧ OwnS w' w.heap.size v ((tagsR l).1.map bytesOf)

set_option maxHeartbeats 2000000 in
theorem specParseTags_any (s : ByteArray) (w : World) (hs : s.size ≤ 1048576) :
    Calls Tryd.prog 10 #[.string s] w fun e w' => TagRet w s.data.toList e w' ∧ Below w.heap.size w w' := by
  have HST := star_iff s
  by_cases h0 : s.data.toList = [42]
  · have HR : Hid (tagsR s.data.toList = ([[42]], true)) := by show tagsR s.data.toList = _; rw [h0]; rfl
    rw [decide_eq_true h0] at HST
    clear h0
    go_enter Tryd.func10, Tryd.ntmps10
    go_wp2
    go_ret2
    refine ⟨⟨?_, ?_, ?_⟩, (Below.refl _ _).alloc (Nat.le_refl _) _⟩
    · exact .slice (some ⟨w.heap.size, 0, none⟩) 1 1
    · rw [HR.out]; rfl
    · rw [HR.out]
      exact OwnS.one w _ _
  · have HR := hide (tagsR_spec h0)
    rw [decide_eq_false h0] at HST
    clear h0
    have HSP := hide (fun W => l9Split_any s W hs)
    have EL := hide (show s.data.toList.length = s.size from Array.length_toList)
    have hle := spq_le s.data.toList false
    have hln := spq_len s.data.toList false
    obtain ⟨ps, hps⟩ : ∃ ps, spq false s.data.toList = ps := ⟨_, rfl⟩
    rw [hps] at HR HSP hle hln
    clear hps
    obtain ⟨n, hn⟩ : ∃ n, ps.length = n := ⟨_, rfl⟩
    rw [hn] at HR HSP hln
    have HLE := hide hle
    have HN := hide hn
    have hnb : n ≤ 1048577 := by rw [EL.out] at hln; omega
    clear hle hn hln
    go_enter Tryd.func10, Tryd.ntmps10
    go_wp2_with fail
    refine (HSP.out w).mono ?_
    rintro e w1 ⟨⟨g, cap, rfl, hown⟩, b1⟩
    have hcs : ∀ j (hj : j < ps.length), w1.cell? ⟨g, j, none⟩ = some (.string (tgS ps[j])) := fun j hj => by rw [hown.cellAt j (by have := HN.out; omega)]; simp [strCells, List.getElem?_eq_getElem hj]
    have HO := hide hown
    have HCS := hide hcs
    clear hown hcs HSP
    go_wp2
    go_loop [5] (fun i => ∃ k : Nat, k ≤ n ∧ i = .int .i64 k ∧ ((ps.take k).map trimL).all tagB = true) (fun i => n - (intOf i).toNat)
    case atStart => exact ⟨0, Nat.zero_le _, rfl, rfl⟩
    case round =>
      obtain ⟨k, hk, rfl, hal⟩ := hrel
      have HA := hide hal
      clear hal
      by_cases hlt : k < n
      · have hkp : k < ps.length := by rw [HN.out]; exact hlt
        have hcx := HCS.out k hkp
        have HT := hide (l9Tag_any (tgS ps[k]) w1 (by
          have h1 := HLE.out _ (List.getElem_mem hkp)
          have h2 := trim_le ps[k]
          rw [EL.out] at h1
          show (bytesOf (trimL ps[k])).size ≤ maxLen
          rw [bytesOf_size]; unfold maxLen; omega))
        cases ht : tagB (trimL ps[k])
        · have HF : Hid (tagsR s.data.toList = ([], false)) := by
            show tagsR s.data.toList = _
            rw [HR.out, if_neg (fun e => all_not ps k hkp ht e.1)]
          have HT' : Hid (Calls Tryd.prog 28 #[.string (tgS ps[k])] w1 fun e w' => e = .returned (.bool false) ∧ w' = w1) := by
            have := HT.out
            rw [show tagB (tgS ps[k]).data.toList = false from ht] at this
            exact this
          clear ht HT
          go_wp2_with fail
          refine HT'.out.mono ?_
          rintro e w2 ⟨rfl, hw⟩
          obtain rfl := hw.symm
          go_wp2
          go_ret2
          refine ⟨⟨?_, ?_, ?_⟩, b1.alloc b1.size _⟩
          · exact .slice (some ⟨w1.heap.size, 0, none⟩) 0 0
          · rw [HF.out]; rfl
          · rw [HF.out]; exact OwnS.none9 w1 w.heap.size b1.size
        · have HAS := hide (all_snoc ps k hkp HA.out ht)
          have HT' : Hid (Calls Tryd.prog 28 #[.string (tgS ps[k])] w1 fun e w' => e = .returned (.bool true) ∧ w' = w1) := by
            have := HT.out
            rw [show tagB (tgS ps[k]).data.toList = true from ht] at this
            exact this
          clear ht HT
          go_wp2_with fail
          refine HT'.out.mono ?_
          rintro e w2 ⟨rfl, hw⟩
          obtain rfl := hw.symm
          go_wp2
          go_round
          case rel => exact ⟨k + 1, by omega, by go_num, HAS.out⟩
          case measure => simp [intOf]; omega
      · have hall : (ps.map trimL).all tagB = true := by
          have := HA.out
          rw [List.take_of_length_le (by rw [HN.out]; omega)] at this
          exact this
        by_cases h5 : n ≤ 5
        · have HF : Hid (tagsR s.data.toList = (ps.map trimL, true)) := by
            show tagsR s.data.toList = _
            rw [HR.out, if_pos ⟨hall, h5⟩]
          have h5' : ¬ (5 : Int) < n := by omega
          clear hall
          go_wp2
          go_ret2
          refine ⟨⟨?_, ?_, ?_⟩, b1⟩
          · exact .slice (some ⟨g, 0, none⟩) n cap
          · rw [HF.out]; rfl
          · rw [HF.out, ← map_tgS]
            exact OwnS.of HO.out (by rw [List.length_map, HN.out])
        · have HF : Hid (tagsR s.data.toList = ([], false)) := by
            show tagsR s.data.toList = _
            rw [HR.out, if_neg (fun e => h5 e.2)]
          have h5' : (5 : Int) < n := by omega
          clear hall
          go_wp2
          go_ret2
          refine ⟨⟨?_, ?_, ?_⟩, b1.alloc b1.size _⟩
          · exact .slice (some ⟨w1.heap.size, 0, none⟩) 0 0
          · rw [HF.out]; rfl
          · rw [HF.out]; exact OwnS.none9 w1 w.heap.size b1.size
end Go.Proofs.YtccehdlgpbeijaaDoor
