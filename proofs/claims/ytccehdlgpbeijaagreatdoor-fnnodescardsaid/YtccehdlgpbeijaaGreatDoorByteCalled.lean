/-
  What the program's byteCalled does: the byte that a name stands for.
-/
import Derived.Test.YtccehdlgpbeijaaGreatDoorParseNum
import Derived.Test.YtccehdlgpbeijaaGreatDoorSpecMark2
import Derived.Test.YtccehdlgpbeijaaGreatDoorKinds
namespace Go.Proofs.YtccehdlgpbeijaaGreatDoor
open Go.RowKit M
set_option linter.unusedVariables false

theorem pre35 (l : List UInt8) : Lib.hasPrefix l [35] = decide (l.head? = some 35) := by
  cases l with
  | nil => rfl
  | cons c r =>
    simp [Lib.hasPrefix, List.isPrefixOf]
    cases h : ((35 : UInt8) == c)
    · have : ¬ c = 35 := fun e => by rw [e] at h; exact absurd h (by decide)
      simp [this]
    · have := beq_iff_eq.1 h
      simp [← this]
theorem trim35 {l : List UInt8} (h : l.head? = some 35) : Lib.trimPrefix l [35] = l.tail := by
  unfold Lib.trimPrefix
  rw [pre35, if_pos (by simp [h])]
  cases l <;> simp

/-- What byteCalled answers. -/
def CalledIs (l : List UInt8) (e : Ending) : Prop := ∃ (b : UInt8) (ok : Bool), e = .returned (.tuple #[.int .u8 b.toNat, .bool ok]) ∧ ok = (entL l).isSome ∧ ∀ c, entL l = some c → b = c

theorem eqL (s : ByteArray) (l : List UInt8) : (s.toList == l) = decide (s.data.toList = l) := by
  rw [ByteArray.toList_eq, Bool.eq_iff_iff]; simp

theorem byte_wrap (n : Nat) (h : n ≤ 255) : IntKind.u8.wrap (n : Int) = (n : Int) := by rw [IntKind.wrap_u8]; omega
theorem byte_nat (n : Nat) (h : n ≤ 255) : ((UInt8.ofNat n).toNat : Int) = (n : Int) := by rw [UInt8.toNat_ofNat']; omega

theorem called_ret {l : List UInt8} {z : Int} {ok : Bool} (b : UInt8) (hz : z = (b.toNat : Int)) (h1 : ok = (entL l).isSome) (h2 : ∀ c, entL l = some c → b = c) : CalledIs l (.returned (.tuple #[.int .u8 z, .bool ok])) := ⟨b, ok, by rw [hz], h1, h2⟩

set_option maxRecDepth 100000 in
set_option maxHeartbeats 2000000 in
theorem byteCalled_any (s : ByteArray) (w : World) (hs : s.size ≤ maxLen) :
    Calls Tryz.prog 109 #[.string s] w fun e w' => CalledIs s.data.toList e ∧ Below w.heap.size w w' := by
  have el : s.data.toList.length = s.size := Array.length_toList
  have e1 := eqL s [97, 109, 112]
  have e2 := eqL s [108, 116]
  have e3 := eqL s [103, 116]
  have e4 := eqL s [113, 117, 111, 116]
  have e5 := eqL s [97, 112, 111, 115]
  by_cases h1 : s.data.toList = [97, 109, 112]
  · have HE := hide (called_ret (l := s.data.toList) (z := 38) (ok := true) 38 rfl (by rw [h1, ent_amp]; rfl) (by rw [h1, ent_amp]; intro c h; exact Option.some.inj h))
    rw [decide_eq_true h1] at e1
    clear h1 e2 e3 e4 e5 el
    go_enter Tryz.func109, Tryz.ntmps109
    go_wp2
    go_ret2
    exact ⟨HE.out, Below.refl _ _⟩
  rw [decide_eq_false h1] at e1
  by_cases h2 : s.data.toList = [108, 116]
  · have HE := hide (called_ret (l := s.data.toList) (z := 60) (ok := true) 60 rfl (by rw [h2, ent_lt]; rfl) (by rw [h2, ent_lt]; intro c h; exact Option.some.inj h))
    rw [decide_eq_true h2] at e2
    clear h1 h2 e3 e4 e5 el
    go_enter Tryz.func109, Tryz.ntmps109
    go_wp2
    go_ret2
    exact ⟨HE.out, Below.refl _ _⟩
  rw [decide_eq_false h2] at e2
  by_cases h3 : s.data.toList = [103, 116]
  · have HE := hide (called_ret (l := s.data.toList) (z := 62) (ok := true) 62 rfl (by rw [h3, ent_gt]; rfl) (by rw [h3, ent_gt]; intro c h; exact Option.some.inj h))
    rw [decide_eq_true h3] at e3
    clear h1 h2 h3 e4 e5 el
    go_enter Tryz.func109, Tryz.ntmps109
    go_wp2
    go_ret2
    exact ⟨HE.out, Below.refl _ _⟩
  rw [decide_eq_false h3] at e3
  by_cases h4 : s.data.toList = [113, 117, 111, 116]
  · have HE := hide (called_ret (l := s.data.toList) (z := 34) (ok := true) 34 rfl (by rw [h4, ent_quot]; rfl) (by rw [h4, ent_quot]; intro c h; exact Option.some.inj h))
    rw [decide_eq_true h4] at e4
    clear h1 h2 h3 h4 e5 el
    go_enter Tryz.func109, Tryz.ntmps109
    go_wp2
    go_ret2
    exact ⟨HE.out, Below.refl _ _⟩
  rw [decide_eq_false h4] at e4
  by_cases h5 : s.data.toList = [97, 112, 111, 115]
  · have HE := hide (called_ret (l := s.data.toList) (z := 39) (ok := true) 39 rfl (by rw [h5, ent_apos]; rfl) (by rw [h5, ent_apos]; intro c h; exact Option.some.inj h))
    rw [decide_eq_true h5] at e5
    clear h1 h2 h3 h4 h5 el
    go_enter Tryz.func109, Tryz.ntmps109
    go_wp2
    go_ret2
    exact ⟨HE.out, Below.refl _ _⟩
  rw [decide_eq_false h5] at e5
  have hfree : entFree s.data.toList := ⟨h1, h2, h3, h4, h5⟩
  clear h1 h2 h3 h4 h5
  have HP := hide (fun W : World => Tryz.strings_CutPrefix s ⟨#[35]⟩ W)
  have e35 : (⟨#[35]⟩ : ByteArray).data.toList = [35] := rfl
  rw [e35, pre35] at HP
  by_cases h35 : s.data.toList.head? = some 35
  · rw [trim35 h35, decide_eq_true h35] at HP
    have hent := ent_num hfree h35
    obtain ⟨t, ht⟩ : ∃ t : ByteArray, (⟨s.data.toList.tail.toArray⟩ : ByteArray) = t := ⟨_, rfl⟩
    have htl : t.data.toList = s.data.toList.tail := by rw [← ht]
    have hts : t.size ≤ maxLen := by
      have h1 : t.data.toList.length = t.size := Array.length_toList
      rw [htl, List.length_tail] at h1; omega
    rw [ht] at HP
    have HN := hide (fun W : World => parseNum_any t 255 W hts)
    rw [htl] at HN
    rw [← parse_more] at hent
    by_cases hok : parseOk s.data.toList.tail 255
    · have hm : decVal s.data.toList.tail ≤ 255 := by have := hok.2.2.2.2; omega
      rw [parseNum_yes hok] at HN hent
      obtain ⟨n, hn⟩ : ∃ n, decVal s.data.toList.tail = n := ⟨_, rfl⟩
      rw [hn] at HN hent hm
      have hbw := byte_wrap n hm
      have hpl : anyB (n : Int) [0] = decide (32 ≤ (n : Int) ∧ (n : Int) ≤ 126) := by rw [← inB_plain]; simp [inB]
      have HE : Hid (CalledIs s.data.toList (.returned (.tuple #[.int .u8 (n : Int), .bool (anyB (n : Int) [0])]))) := by
        refine called_ret (UInt8.ofNat n) (byte_nat n hm).symm ?_ ?_
        · rw [hent, hpl]
          simp only [Bool.true_and]
          cases hd : decide (32 ≤ (n : Int) ∧ (n : Int) ≤ 126) <;> simp
        · intro c hc
          rw [hent] at hc
          simp only [Bool.true_and] at hc
          cases hd : decide (32 ≤ (n : Int) ∧ (n : Int) ≤ 126)
          · rw [hd] at hc; simp at hc
          · rw [hd] at hc; simpa using hc
      clear hent hfree h35 hok hn ht htl el e35 hpl
      go_enter Tryz.func109, Tryz.ntmps109
      go_wp2_with fail
      refine (HP.out w).mono ?_
      rintro e w1 ⟨rfl, hw1⟩
      obtain rfl := hw1.symm
      go_wp2_with fail
      refine (HN.out w).mono ?_
      rintro e w1 ⟨rfl, b1⟩
      go_wp2_with (go_at_call 90; refine (isOneOf_any _ [0] 1 _ 0 1 _ rfl (by decide) (cells1 w1 0 121)).mono ?_; rintro e w2 ⟨rfl, rfl⟩)
      go_ret2
      exact ⟨HE.out, b1.alloc b1.size _⟩
    · rw [parseNum_no hok] at HN hent
      have HE : Hid (CalledIs s.data.toList (.returned (.tuple #[.int .u8 0, .bool false]))) := called_ret 0 rfl (by rw [hent]; rfl) (by rw [hent]; intro c hc; simp at hc)
      clear hent hfree h35 hok ht htl el e35
      go_enter Tryz.func109, Tryz.ntmps109
      go_wp2_with fail
      refine (HP.out w).mono ?_
      rintro e w1 ⟨rfl, hw1⟩
      obtain rfl := hw1.symm
      go_wp2_with fail
      refine (HN.out w).mono ?_
      rintro e w1 ⟨rfl, b1⟩
      go_wp2
      go_ret2
      exact ⟨HE.out, b1⟩
  · have hp : decide (s.data.toList.head? = some 35) = false := decide_eq_false h35
    rw [hp] at HP
    have HE : Hid (CalledIs s.data.toList (.returned (.tuple #[.int .u8 0, .bool false]))) := called_ret 0 rfl (by rw [ent_not hfree h35]; rfl) (by rw [ent_not hfree h35]; intro c hc; cases hc)
    clear hfree h35 hp el e35
    go_enter Tryz.func109, Tryz.ntmps109
    go_wp2_with fail
    refine (HP.out w).mono ?_
    rintro e w1 ⟨rfl, hw1⟩
    obtain rfl := hw1.symm
    go_wp2
    go_ret2
    exact ⟨HE.out, Below.refl _ _⟩
end Go.Proofs.YtccehdlgpbeijaaGreatDoor
