/-
  Whether a text is one of a list: what spec.l9Has does.
-/
import Derived.Test.YtcgljeagjchobabRet
import Derived.Test.YtcgljeagjchobabMath
import Derived.Test.YtcgljeagjchobabHide
import Derived.WalkKit
import Derived.WalkSpells
import Derived.WalkLawsBesides
import Derived.Deep.Light
namespace Go.Proofs.Ytcgljeagjchobab
open Go.RowKit M
set_option linter.unusedVariables false

/-- Whether a mark is among these. -/
def hasB (ns : List ByteArray) (t : ByteArray) : Bool := ns.any fun x => decide (x = t)
theorem hasB_iff (ns : List ByteArray) (t : ByteArray) : hasB ns t = true ↔ t ∈ ns := by
  unfold hasB
  rw [List.any_eq_true]
  constructor
  · rintro ⟨x, hx, he⟩
    rw [← of_decide_eq_true he]; exact hx
  · intro h
    exact ⟨t, h, decide_eq_true rfl⟩
theorem hasB_no {ns : List ByteArray} {t : ByteArray} (h : t ∉ ns) : hasB ns t = false := by
  cases hb : hasB ns t
  · rfl
  · exact absurd ((hasB_iff ns t).1 hb) h
theorem has_at {ns : List ByteArray} {t : ByteArray} (k : Nat) (hk : k < ns.length) (h : ns[k] = t) : hasB ns t = true := (hasB_iff ns t).2 (by rw [← h]; exact List.getElem_mem hk)
theorem str_eq (a b : ByteArray) : (a.toList == b.toList) = decide (a = b) := by
  by_cases h : a = b
  · subst h; simp
  · rw [decide_eq_false h]
    cases hb : (a.toList == b.toList)
    · rfl
    · exfalso
      have := beq_iff_eq.1 hb
      rw [ByteArray.toList_eq, ByteArray.toList_eq] at this
      exact h (by apply ByteArray.ext; exact Array.ext' this)

set_option maxHeartbeats 1000000 in
theorem l9Has_any (g n cap : Nat) (ns : List ByteArray) (t : ByteArray) (w : World) (hn : ns.length = n) (hl : n ≤ 1000) (hc : ∀ j (hj : j < ns.length), w.cell? ⟨g, j, none⟩ = some (.string ns[j])) :
    Calls Try.prog 6 #[.slice (some ⟨g, 0, none⟩) n cap, .string t] w fun e w' => e = .returned (.bool (hasB ns t)) ∧ w' = w := by
  have HN := hide hn
  have HC := hide hc
  clear hn hc
  go_enter Try.func6, Try.ntmps6
  go_wp2
  go_loop [5] (fun i => ∃ k : Nat, k ≤ n ∧ i = .int .i64 k ∧ t ∉ ns.take k) (fun i => n - (intOf i).toNat)
  case atStart => exact ⟨0, Nat.zero_le _, rfl, by simp⟩
  case round =>
    obtain ⟨k, hk, rfl, hal⟩ := hrel
    have HA := hide hal
    clear hal
    by_cases hlt : k < n
    · have hkp : k < ns.length := by rw [HN.out]; exact hlt
      have hcx := HC.out k hkp
      have hse := str_eq ns[k] t
      by_cases he : ns[k] = t
      · have HR := hide (has_at k hkp he)
        rw [decide_eq_true he] at hse
        clear he
        go_wp2
        go_ret
        exact ⟨ret_bool HR.out.symm, rfl⟩
      · have HA2 := hide (show t ∉ ns.take (k + 1) by
          rw [List.take_succ_eq_append_getElem hkp]
          intro hm
          rcases List.mem_append.1 hm with hm | hm
          · exact HA.out hm
          · exact he (List.mem_singleton.1 hm).symm)
        rw [decide_eq_false he] at hse
        clear he
        go_wp2
        go_round
        case rel => exact ⟨k + 1, by omega, by go_num, HA2.out⟩
        case measure => simp [intOf]; omega
    · have HR : Hid (hasB ns t = false) := by
        show hasB ns t = false
        apply hasB_no
        have := HA.out
        rw [List.take_of_length_le (by rw [HN.out]; omega)] at this
        exact this
      go_wp2
      go_ret
      exact ⟨ret_bool HR.out.symm, rfl⟩

end Go.Proofs.Ytcgljeagjchobab
