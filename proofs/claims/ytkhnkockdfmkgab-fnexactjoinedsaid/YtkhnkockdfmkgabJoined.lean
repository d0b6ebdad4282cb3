/-
  What Joined does: all pieces, one behind the other; the specification's, too.
-/
import Derived.Test.YtkhnkockdfmkgabBytss
import Derived.Test.YtkhnkockdfmkgabAppendA
import Derived.Test.YtkhnkockdfmkgabShelf
import Derived.Test.YtkhnkockdfmkgabFreshY
namespace Go.Proofs.Ytkhnkockdfmkgab
open Go.RowKit
set_option linter.unusedVariables false

theorem flat_snoc (ls : List (List UInt8)) (k : Nat) (h : k < ls.length) : (ls.take (k + 1)).flatten = (ls.take k).flatten ++ ls[k] := by
  rw [List.take_succ_eq_append_getElem h, List.flatten_append]
  simp
theorem flat_all (ls : List (List UInt8)) (k : Nat) (h : ¬ k < ls.length) : (ls.take k).flatten = ls.flatten := by rw [List.take_of_length_le (by omega)]

set_option maxHeartbeats 1000000 in
theorem specJoined_any (a : Option Addr) (ls : List (List UInt8)) (cap B : Nat) (w : World) (h : Bss w B a ls) (hB : B ≤ w.heap.size) (hl : ls.length ≤ 1048576) (hs : sumB ls ≤ 4194304) :
    Calls Try.prog 5 #[.slice a ls.length cap] w fun e w' => (∃ v, e = .returned v ∧ OwnY w' w.heap.size v ls.flatten) ∧ Below w.heap.size w w' := by
  have hb0 : Below w.heap.size w (w.alloc (Obj.cells #[] 5)) := (Below.refl _ _).alloc (Nat.le_refl _) _
  have HB0 := hide hb0
  have HO0 := hide (OwnY.bare w)
  clear hb0
  go_enter Try.func5, Try.ntmps5
  go_wp2
  go_loopw [3, 4] (fun v i wr => ∃ k : Nat, k ≤ ls.length ∧ i = .int .i64 k ∧ OwnY wr w.heap.size v (ls.take k).flatten ∧ Below w.heap.size w wr) (fun _ i _ => ls.length - (intOf i).toNat)
  case atStart => exact ⟨0, Nat.zero_le _, rfl, HO0.out, HB0.out⟩
  case round =>
    obtain ⟨k, hk, rfl, hown, hbe⟩ := hrel
    by_cases hlt : k < ls.length
    · obtain ⟨b, o, rfl, hb, hc⟩ := h (by omega)
      obtain ⟨aj, cj, hc1, hy, hlc, hcm⟩ := hc k hlt
      have hcx := (hbe.cell (p := ⟨b, o + k, none⟩) (Nat.lt_of_lt_of_le hb hB)).trans hc1
      have h1 := sumB_le ls k
      have h2 := sumB_at ls k hlt
      have h3 := sumB_flat (ls.take k)
      have HY := hide (hy.below hbe hB)
      have HO := hide hown
      have HB := hide hbe
      have HF := hide (flat_snoc ls k hlt)
      obtain ⟨g, c, rfl, hg, _⟩ := hown.byt
      clear hc hc1 hy hlc hcm hown hbe
      go_wp2_with (at_builtin; refine wp_append_any rfl _ _ rfl w.heap.size _ (ls.take k).flatten rfl HO.out aj ls[k] cj B rfl HY.out (by omega) HB.out.size ?_)
      intro v' w1 o1 g1 _
      have HO1 := hide o1
      rw [← HF.out] at HO1
      have HB1 := hide (HB.out.trans (HO.out.grown HB.out.size g1))
      clear o1 g1
      go_wp2
      go_roundw
      case rel => exact ⟨k + 1, by omega, by go_num, HO1.out, HB1.out⟩
      case measure => simp [intOf]; omega
    · have HF := flat_all ls k hlt
      rw [HF] at hown
      clear HF
      go_wp2
      go_ret
      exact ⟨⟨_, rfl, hown⟩, hbe⟩

theorem parts_of {w : World} {B : Nat} {b o : Nat} {ls : List (List UInt8)} (h : ∀ j (hj : j < ls.length), ∃ aj cj, w.cell? ⟨b, o + j, none⟩ = some (.slice aj ls[j].length cj) ∧ Byt w B aj ls[j] ∧ ls[j].length ≤ cj ∧ cj ≤ maxLen) :
    Lib.PartsAt w ⟨b, o, none⟩ ((List.range ls.length).map fun j => (w.cell? ⟨b, o + j, none⟩).getD undef) ls := by
  refine ⟨by simp, fun i v hv => ?_, fun i v l hv hl => ?_⟩
  · have hi : i < ls.length := by
      have := (List.getElem?_eq_some_iff.1 hv).1
      simpa using this
    obtain ⟨aj, cj, h1, _⟩ := h i hi
    simp [hi] at hv
    rw [add_plainA]
    rw [h1] at hv ⊢
    rw [← hv]; rfl
  · have hi : i < ls.length := (List.getElem?_eq_some_iff.1 hl).1
    obtain ⟨aj, cj, h1, h2, _⟩ := h i hi
    simp [hi] at hv
    rw [h1] at hv
    have hle : ls[i] = l := (List.getElem?_eq_some_iff.1 hl).2
    rw [hle] at h1 h2 hv
    refine ⟨aj, cj, hv.symm, fun e => ?_, fun x e j y hy => ?_⟩
    · subst e
      by_cases h0 : 0 < l.length
      · obtain ⟨_, _, e, _⟩ := h2 h0; cases e
      · exact List.length_eq_zero_iff.1 (by omega)
    · subst e
      have hj := (List.getElem?_eq_some_iff.1 hy).1
      obtain ⟨b', o', e, _, hc⟩ := h2 (by omega)
      cases e
      rw [add_plainA, hc j hj]
      have := (List.getElem?_eq_some_iff.1 hy).2
      rw [this]
theorem fresh_of {w : World} {B : Nat} {v : Value} {l : List UInt8} (h : Lib.FreshBytes B w v l) : FreshY w B v l := by
  obtain ⟨g, cap, zs, rfl, hB, h1, h2, h3, h4, h5, h6, h7⟩ := h
  have hz : ∀ j (hj : j < l.length), zs.getD j 0 = (l[j]).toNat := by
    intro j hj
    have hj2 : j < zs.length := by omega
    have e : (Lib.bytesOf (zs.take l.length))[j]? = some l[j] := by rw [h5]; exact List.getElem?_eq_getElem hj
    have hr := h4 zs[j] (List.getElem_mem hj2)
    simp [Lib.bytesOf, hj, List.getElem?_eq_getElem hj2] at e
    simp [List.getD, List.getElem?_eq_getElem hj2]
    rw [← e]
    simp
    omega
  refine ⟨_, cap, rfl, h1, h2, fun h0 => ⟨g, rfl, hB, ?_⟩, fun h0 => ?_⟩
  · exact ⟨World.block_lt_of_cell? w _ (h6 0 (by omega)), fun j hj => ⟨⟨_, h6 j (by omega)⟩, h7 j (by omega)⟩⟩
  · exact ⟨g, 0, rfl, World.block_lt_of_cell? w _ (h6 0 (by omega)), fun j hj => by rw [Nat.zero_add, h6 j (by omega), hz j hj]⟩
theorem join_flat (ls : List (List UInt8)) : Lib.join ls [] = ls.flatten := by
  cases ls with
  | nil => rfl
  | cons x r =>
    rw [Lib.join_cons]
    simp [Lib.joinTail]

set_option maxHeartbeats 1000000 in
theorem join_any (a : Option Addr) (ls : List (List UInt8)) (cap B : Nat) (w : World) (h : Bss w B a ls) (hB : B ≤ w.heap.size) (hlc : ls.length ≤ cap) (hl : ls.length ≤ 1048576) (hs : sumB ls ≤ 4194304) :
    Calls Try.prog 15 #[.slice a ls.length cap, .slice none 0 0] w fun e w' => (∃ v, e = .returned v ∧ FreshY w' w.heap.size v ls.flatten) ∧ Below w.heap.size w w' := by
  match ls, h, hlc, hl, hs with
  | [], h, hlc, hl, hs =>
    refine (Try.bytes_Join_none a cap _ w).mono ?_
    rintro e w' ⟨rfl, rfl⟩
    exact ⟨⟨_, rfl, FreshY.empty _ _ _ 0 (Nat.zero_le _)⟩, (Below.refl _ _).alloc (Nat.le_refl _) _⟩
  | [l], h, hlc, hl, hs =>
    obtain ⟨b, o, rfl, hb, hc⟩ := h (by simp)
    obtain ⟨aj, cj, h1, h2, h3, h4⟩ := hc 0 (by simp)
    have h1' : w.cell? ⟨b, o, none⟩ = some (.slice aj l.length cj) := h1
    have h2' : Byt w B aj l := h2
    have e0 : [l].flatten = l := by simp
    have hll : l.length ≤ 140737488355328 := by
      have : sumB [l] = l.length := by simp [sumB]
      omega
    rw [e0]
    by_cases h0 : 0 < l.length
    · obtain ⟨b', o', rfl, _, hcc⟩ := h2' h0
      refine (Try.bytes_Join_one b o cap ⟨b', o', none⟩ cj l _ w h1' (fun i x hx => ?_) h0 hll).mono ?_
      · have hi := (List.getElem?_eq_some_iff.1 hx).1
        rw [add_plainA, hcc i hi, (List.getElem?_eq_some_iff.1 hx).2]
      · rintro e w' ⟨v, rfl, hf, hb⟩
        exact ⟨⟨v, rfl, fresh_of hf⟩, hb⟩
    · have hn : l = [] := List.length_eq_zero_iff.1 (by omega)
      subst hn
      refine (Try.bytes_Join_one_empty b o cap aj cj _ w h1').mono ?_
      rintro e w' ⟨rfl, rfl⟩
      exact ⟨⟨_, rfl, FreshY.nul _ _⟩, Below.refl _ _⟩
  | l1 :: l2 :: lr, h, hlc, hl, hs =>
    obtain ⟨b, o, rfl, hb, hc⟩ := h (by simp)
    have hj := join_flat (l1 :: l2 :: lr)
    have e1 : Lib.lens (l1 :: l2 :: lr) = sumB (l1 :: l2 :: lr) := rfl
    refine (Try.bytes_Join_many b o _ cap _ (l1 :: l2 :: lr) (.slice none 0 0) [] w rfl (by simp) (parts_of hc) hlc ⟨none, 0, rfl, fun _ => rfl, fun a e => by cases e⟩ (by omega) (by rw [e1]; simp only [List.length_nil, Nat.zero_mul]; omega)).mono ?_
    rintro e w' ⟨v, rfl, hf, hb⟩
    rw [hj] at hf
    exact ⟨⟨v, rfl, fresh_of hf⟩, hb⟩
set_option maxHeartbeats 400000 in
theorem joined_any (a : Option Addr) (ls : List (List UInt8)) (cap B : Nat) (w : World) (h : Bss w B a ls) (hB : B ≤ w.heap.size) (hlc : ls.length ≤ cap) (hl : ls.length ≤ 1048576) (hs : sumB ls ≤ 4194304) :
    Calls Try.prog 7 #[.slice a ls.length cap] w fun e w' => (∃ v, e = .returned v ∧ FreshY w' w.heap.size v ls.flatten) ∧ Below w.heap.size w w' := by
  have HJ := hide (join_any a ls cap B w h hB hlc hl hs)
  clear h
  go_enter Try.func7, Try.ntmps7
  go_wp2_with fail
  refine HJ.out.mono ?_
  rintro e w1 ⟨⟨v, rfl, h1⟩, b1⟩
  have H1 := hide h1
  clear h1 HJ
  go_wp2
  go_ret
  exact ⟨⟨_, rfl, H1.out⟩, b1⟩
end Go.Proofs.Ytkhnkockdfmkgab
