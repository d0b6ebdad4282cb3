/-
  Whether a mark is one of a list: what both sides do.
-/
import Derived.Test.YtccehdlgpbeijaaDoorParseTags
namespace Go.Proofs.YtccehdlgpbeijaaDoor
open Go.RowKit M
set_option linter.unusedVariables false

/-- Whether a mark is among these. -/
def hasB (ns : List ByteArray) (t : ByteArray) : Bool := ns.any fun x => decide (x = t)
theorem hasB_iff (ns : List ByteArray) (t : ByteArray) : hasB ns t = true ↔ t ∈ ns := by
  unfold hasB
  rw [List.any_eq_true]
  constructor
  · rintro ⟨x, hx, he⟩
    rw [← of_decide_eq_true he]; exact hx
  · intro h
    exact ⟨t, h, decide_eq_true rfl⟩
theorem hasB_no {ns : List ByteArray} {t : ByteArray} (h : t ∉ ns) : hasB ns t = false := by
  cases hb : hasB ns t
  · rfl
  · exact absurd ((hasB_iff ns t).1 hb) h
theorem has_contains (ns : List ByteArray) (t : ByteArray) : Lib.containsS ns t = hasB ns t := by
  cases h : Lib.containsS ns t
  · symm
    apply hasB_no
    intro hm
    rw [(Lib.containsS_iff ns t).2 hm] at h
    cases h
  · exact ((hasB_iff ns t).2 ((Lib.containsS_iff ns t).1 h)).symm
theorem has_at {ns : List ByteArray} {t : ByteArray} (k : Nat) (hk : k < ns.length) (h : ns[k] = t) : hasB ns t = true := (hasB_iff ns t).2 (by rw [← h]; exact List.getElem_mem hk)
theorem str_eq (a b : ByteArray) : (a.toList == b.toList) = decide (a = b) := by
  by_cases h : a = b
  · subst h; simp
  · rw [decide_eq_false h]
    cases hb : (a.toList == b.toList)
    · rfl
    · exfalso
      have := beq_iff_eq.1 hb
      rw [ByteArray.toList_eq, ByteArray.toList_eq] at this
      exact h (by apply ByteArray.ext; exact Array.ext' this)

set_option maxHeartbeats 1000000 in
theorem l9Has_any (g n cap : Nat) (ns : List ByteArray) (t : ByteArray) (w : World) (hn : ns.length = n) (hl : n ≤ 1000) (hc : ∀ j (hj : j < ns.length), w.cell? ⟨g, j, none⟩ = some (.string ns[j])) :
    Calls Tryd.prog 33 #[.slice (some ⟨g, 0, none⟩) n cap, .string t] w fun e w' => e = .returned (.bool (hasB ns t)) ∧ w' = w := by
  have HN := hide hn
  have HC := hide hc
  clear hn hc
  go_enter Tryd.func33, Tryd.ntmps33
  go_wp2
  go_loop [5] (fun i => ∃ k : Nat, k ≤ n ∧ i = .int .i64 k ∧ t ∉ ns.take k) (fun i => n - (intOf i).toNat)
  case atStart => exact ⟨0, Nat.zero_le _, rfl, by simp⟩
  case round =>
    obtain ⟨k, hk, rfl, hal⟩ := hrel
    have HA := hide hal
    clear hal
    by_cases hlt : k < n
    · have hkp : k < ns.length := by rw [HN.out]; exact hlt
      have hcx := HC.out k hkp
      have hse := str_eq ns[k] t
      by_cases he : ns[k] = t
      · have HR := hide (has_at k hkp he)
        rw [decide_eq_true he] at hse
        clear he
        go_wp2
        go_ret
        exact ⟨ret_bool HR.out.symm, rfl⟩
      · have HA2 := hide (show t ∉ ns.take (k + 1) by
          rw [List.take_succ_eq_append_getElem hkp]
          intro hm
          rcases List.mem_append.1 hm with hm | hm
          · exact HA.out hm
          · exact he (List.mem_singleton.1 hm).symm)
        rw [decide_eq_false he] at hse
        clear he
        go_wp2
        go_round
        case rel => exact ⟨k + 1, by omega, by go_num, HA2.out⟩
        case measure => simp [intOf]; omega
    · have HR : Hid (hasB ns t = false) := by
        show hasB ns t = false
        apply hasB_no
        have := HA.out
        rw [List.take_of_length_le (by rw [HN.out]; omega)] at this
        exact this
      go_wp2
      go_ret
      exact ⟨ret_bool HR.out.symm, rfl⟩

theorem contains_any (g n cap : Nat) (ns : List ByteArray) (t : ByteArray) (w : World) (hn : ns.length = n) (hl : n ≤ 1000) (hc : ∀ j (hj : j < ns.length), w.cell? ⟨g, j, none⟩ = some (.string ns[j])) :
    Calls Tryd.prog 45 #[.slice (some ⟨g, 0, none⟩) n cap, .string t] w fun e w' => e = .returned (.bool (hasB ns t)) ∧ w' = w := by
  subst hn
  have h := Tryd.slices_Contains_string g 0 ns.length cap ns t w (Nat.le_refl _) (by omega) (fun j hj => by rw [Nat.zero_add, hc j hj]; simp [List.getD, List.getElem?_eq_getElem hj])
  rw [List.take_length, has_contains] at h
  exact h

theorem tgs_len9 : ∀ (f : Nat) (l : List UInt8) (acc x : List (List UInt8)), acc.length ≤ 5 → tgs f l acc = some x → x.length ≤ 5
  | 0, l, acc, x, _, h => by rw [tgs] at h; cases h
  | f + 1, l, acc, x, ha, h => by
    rw [tgs] at h
    split at h
    · cases h
    · split at h
      · cases h
      · split at h
        · cases h; simp; omega
        · split at h
          · exact tgs_len9 f _ _ x (by simp; omega) h
          · cases h
theorem tagsR_len9 (l : List UInt8) : (tagsR l).1.length ≤ 5 := by
  unfold tagsR
  split
  · simp
  · split
    · rename_i h; exact tgs_len9 _ _ _ _ (by simp) h
    · simp

/-- Whether a mark is named. -/
def namB (l : List UInt8) (t : ByteArray) : Bool := decide (l = [42]) || hasB ((tagsR l).1.map bytesOf) t
theorem namB_star {l : List UInt8} {t : ByteArray} (h : l = [42]) : namB l t = true := by simp [namB, h]
theorem namB_not {l : List UInt8} {t : ByteArray} (h : ¬ l = [42]) : namB l t = hasB ((tagsR l).1.map bytesOf) t := by simp [namB, h]
theorem tagsR_bad {l : List UInt8} (h : (tagsR l).2 = false) : (tagsR l).1 = [] ∧ ¬ l = [42] := by
  unfold tagsR at *
  split at h
  · cases h
  · rename_i h42
    rw [if_neg h42]
    split at h
    · cases h
    · exact ⟨rfl, h42⟩
theorem namB_bad {l : List UInt8} {t : ByteArray} (h : (tagsR l).2 = false) : namB l t = false := by
  obtain ⟨h1, h2⟩ := tagsR_bad h
  rw [namB_not h2, h1]; rfl

set_option maxHeartbeats 1000000 in
theorem isNamed_any (s t : ByteArray) (w : World) (hs : s.size ≤ 1048576) :
    Calls Tryd.prog 32 #[.string s, .string t] w fun e w' => e = .returned (.bool (namB s.data.toList t)) ∧ Below w.heap.size w w' := by
  have HP := hide (parseTags_any s w hs)
  have HST := star_iff s
  by_cases h0 : s.data.toList = [42]
  · have HR := hide (namB_star (t := t) h0)
    rw [decide_eq_true h0] at HST
    clear h0
    go_enter Tryd.func32, Tryd.ntmps32
    go_wp2_with fail
    refine HP.out.mono ?_
    rintro e w1 ⟨⟨v, rfl, ho⟩, b1⟩
    clear ho
    go_wp2
    go_ret
    exact ⟨ret_bool HR.out.symm, b1⟩
  · have HR := hide (namB_not (t := t) h0)
    rw [decide_eq_false h0] at HST
    clear h0
    have h5 := tagsR_len9 s.data.toList
    go_enter Tryd.func32, Tryd.ntmps32
    go_wp2_with fail
    refine HP.out.mono ?_
    rintro e w1 ⟨⟨v, rfl, ho⟩, b1⟩
    obtain ⟨g, cap, rfl, _, _, _, _, hcs⟩ := ho
    have HC := hide (contains_any g _ cap _ t w1 rfl (by rw [List.length_map]; omega) (fun j hj => (hcs j hj).1))
    clear hcs h5
    obtain ⟨n, hn⟩ : ∃ n, ((tagsR s.data.toList).1.map bytesOf).length = n := ⟨_, rfl⟩
    rw [hn] at HC
    rw [hn]
    clear hn
    go_wp2_with fail
    refine HC.out.mono ?_
    rintro e w2 ⟨rfl, hw⟩
    obtain rfl := hw.symm
    go_wp2
    go_ret
    exact ⟨ret_bool HR.out.symm, b1⟩
end Go.Proofs.YtccehdlgpbeijaaDoor
