/-
  Whether two slices of texts hold the same: what slices.Equal[[]string,string] does.
  What the program's Under does.
  What the program's SamePath does.
  What impl.isDeep does.
-/
import Derived.Test.YtafdbnadakclnaaGreatDrawC
import Derived.Test.YtafdbnadakclnaaGreatKinds
import Derived.Test.YtafdbnadakclnaaGreatSameTexts
namespace Go.Proofs.YtafdbnadakclnaaGreat
open Go.RowKit
set_option linter.unusedVariables false

set_option maxHeartbeats 400000 in
theorem slicesEqual_any (a b : Option Addr) (ss tt : List ByteArray) (cap cap' B C : Nat) (w : World) (h : Strs w B a ss) (h' : Strs w C b tt) (hl : ss.length ≤ maxLen) (hl' : tt.length ≤ maxLen) :
    Calls Tryz.prog 108 #[.slice a ss.length cap, .slice b tt.length cap'] w fun e w' => e = .returned (.bool (sameL ss tt)) ∧ ∀ D, Below D w w' := by
  unfold maxLen at hl hl'
  by_cases hlen : ss.length = tt.length
  · have HL : Hid (ss.length = tt.length) := hlen
    go_enter Tryz.func108, Tryz.ntmps108
    rw [← hlen]
    clear hlen
    go_wp2
    go_loopw [13] (fun i wr => ∃ k n : Nat, k ≤ ss.length ∧ i = .int .i64 k ∧ ss.take k = tt.take k ∧ wr = w.drewN n) (fun i _ => ss.length - (intOf i).toNat)
    case atStart => exact ⟨0, 0, Nat.zero_le _, rfl, rfl, rfl⟩
    case round =>
      obtain ⟨k, n, hk, rfl, ht, rfl⟩ := hrel
      have HT : Hid (ss.take k = tt.take k) := ht
      clear ht
      by_cases hlt : k < ss.length
      · have hlt' : k < tt.length := by have := HL.out; omega
        obtain ⟨b1, o1, rfl, hb1, hc1⟩ := h (by omega)
        obtain ⟨b2, o2, rfl, hb2, hc2⟩ := h' (by have := HL.out; omega)
        have hcx := hc1 k hlt
        have hcy := hc2 k hlt'
        go_wp2
        go_quiet (fail)
        go_wp2
        · rename_i hne
          have hne' : ¬ ss[k] = tt[k] := fun e => by rw [e] at hne; simp at hne
          go_ret
          exact ⟨ret_bool (sameL_not k hlt hlt' hne').symm, fun D => below_drewN (below_drewN (Below.refl _ _) _) _⟩
        · rename_i he
          have he' : ss[k] = tt[k] := str_inj (by simpa using he)
          go_roundw
          case rel => exact ⟨k + 1, n + nq, by omega, by go_num, take_same k hlt hlt' HT.out he', by simp⟩
          case measure => simp [intOf]; omega
      · go_wp2
        go_ret
        exact ⟨ret_bool (sameL_all HL.out k hlt HT.out).symm, fun D => below_drewN (Below.refl _ _) _⟩
  · have HS := sameL_len hlen
    go_enter Tryz.func108, Tryz.ntmps108
    go_wp2
    go_ret
    exact ⟨ret_bool HS.symm, fun D => Below.refl _ _⟩
end Go.Proofs.YtafdbnadakclnaaGreat
namespace Go.Proofs.YtafdbnadakclnaaGreat
open Go.RowKit
set_option linter.unusedVariables false

set_option maxHeartbeats 400000 in
theorem under_any (a b : Option Addr) (ss tt : List ByteArray) (cap cap' B C : Nat) (w : World) (h : Strs w B a ss) (h' : Strs w C b tt) (hl : ss.length ≤ maxLen) (hl' : tt.length ≤ maxLen) (hc : ss.length ≤ cap) (hc' : cap ≤ maxLen) :
    Calls Tryz.prog 112 #[.slice a ss.length cap, .slice b tt.length cap'] w fun e w' => e = .returned (.bool (underB ss tt)) ∧ ∀ D, Below D w w' := by
  have hl1 := hl
  have hl2 := hl'
  have hc2 := hc'
  unfold maxLen at hl hl' hc'
  by_cases hlt : tt.length < ss.length
  · have ht : (ss.take tt.length).length = tt.length := by rw [List.length_take]; omega
    have cE := fun w1 cap1 (hh : Strs w1 B a ss) (hh' : Strs w1 C b tt) => slicesEqual_any a b (ss.take tt.length) tt cap1 cap' B C w1 (hh.take _) hh' (by omega) hl2
    rw [ht] at cE
    obtain ⟨b1, o1, rfl, _, _⟩ := h (by omega)
    go_enter Tryz.func112, Tryz.ntmps112
    go_wp2_with fail
    refine (cE _ _ h h').mono ?_
    rintro e w1 ⟨rfl, hb⟩
    go_wp2
    go_ret
    exact ⟨ret_bool (by simp [underB, hlt]), hb⟩
  · go_enter Tryz.func112, Tryz.ntmps112
    go_wp2
    go_ret
    exact ⟨ret_bool (by simp [underB, hlt]), fun D => Below.refl _ _⟩

end Go.Proofs.YtafdbnadakclnaaGreat
namespace Go.Proofs.YtafdbnadakclnaaGreat
open Go.RowKit
set_option linter.unusedVariables false

set_option maxHeartbeats 400000 in
theorem samePath_any (a b : Option Addr) (ss tt : List ByteArray) (cap cap' B C : Nat) (w : World) (h : Strs w B a ss) (h' : Strs w C b tt) (hl : ss.length ≤ maxLen) (hl' : tt.length ≤ maxLen) :
    Calls Tryz.prog 69 #[.slice a ss.length cap, .slice b tt.length cap'] w fun e w' => e = .returned (.bool (sameL ss tt)) ∧ ∀ D, Below D w w' := by
  go_enter Tryz.func69, Tryz.ntmps69
  go_wp2_with fail
  refine (slicesEqual_any a b ss tt cap cap' B C w h h' hl hl').mono ?_
  rintro e w1 ⟨rfl, hb⟩
  go_wp2
  go_ret
  exact ⟨rfl, hb⟩
end Go.Proofs.YtafdbnadakclnaaGreat
namespace Go.Proofs.YtafdbnadakclnaaGreat
open Go.RowKit M
set_option linter.unusedVariables false

/-- Whether the first is the second, or stands under it. -/
def deepP (ss tt : List ByteArray) : Bool := sameL ss tt || underB ss tt

set_option maxHeartbeats 1000000 in
theorem isDeep_any (a b : Option Addr) (ss tt : List ByteArray) (cap cap' B C : Nat) (w : World) (h : Strs w B a ss) (h' : Strs w C b tt) (hl : ss.length ≤ maxLen) (hl' : tt.length ≤ maxLen) (hc : ss.length ≤ cap) (hm : cap ≤ maxLen) :
    Calls Tryz.prog 74 #[.slice a ss.length cap, .slice b tt.length cap'] w fun e w' => e = .returned (.bool (deepP ss tt)) ∧ ∀ D, Below D w w' := by
  have HQ1 := hide (samePath_any a b ss tt cap cap' B C w h h' hl hl')
  have HQ2 := hide (fun W (x : Strs W B a ss) (y : Strs W C b tt) => under_any a b ss tt cap cap' B C W x y hl hl' hc hm)
  have HD := hide (show deepP ss tt = (sameL ss tt || underB ss tt) from rfl)
  generalize deepP ss tt = z at *
  generalize sameL ss tt = z1 at *
  generalize underB ss tt = z2 at *
  cases z1
  · go_enter Tryz.func74, Tryz.ntmps74
    go_wp2_with fail
    refine HQ1.out.mono ?_
    rintro e w1 ⟨rfl, hb1⟩
    have X1 := hide (HQ2.out w1 (h.below (hb1 B) (Nat.le_refl _)) (h'.below (hb1 C) (Nat.le_refl _)))
    clear HQ1 HQ2
    go_wp2_with fail
    refine X1.out.mono ?_
    rintro e w2 ⟨rfl, hb2⟩
    have HZ := hide (HD.out.trans (Bool.false_or z2))
    clear HD X1
    go_wp2
    go_ret
    exact ⟨by rw [HZ.out]; rfl, fun D => (hb1 D).trans (hb2 D)⟩
  · have HZ := hide (HD.out.trans (Bool.true_or z2))
    clear HD
    go_enter Tryz.func74, Tryz.ntmps74
    go_wp2_with fail
    refine HQ1.out.mono ?_
    rintro e w1 ⟨rfl, hb1⟩
    go_wp2
    go_ret
    exact ⟨by rw [HZ.out]; rfl, hb1⟩
end Go.Proofs.YtafdbnadakclnaaGreat
