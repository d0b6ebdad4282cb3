/-
  What impl.isDeep does.
-/
import Derived.Test.YtepdfppbnepamacSamePathI
namespace Go.Proofs.Ytepdfppbnepamac
open Go.RowKit M
set_option linter.unusedVariables false

/-- Whether the first is the second, or stands under it. -/
def deepP (ss tt : List ByteArray) : Bool := sameL ss tt || underB ss tt

set_option maxHeartbeats 1000000 in
theorem isDeep_any (a b : Option Addr) (ss tt : List ByteArray) (cap cap' B C : Nat) (w : World) (h : Strs w B a ss) (h' : Strs w C b tt) (hl : ss.length ≤ maxLen) (hl' : tt.length ≤ maxLen) (hc : ss.length ≤ cap) (hm : cap ≤ maxLen) :
    Calls Try.prog 20 #[.slice a ss.length cap, .slice b tt.length cap'] w fun e w' => e = .returned (.bool (deepP ss tt)) ∧ ∀ D, Below D w w' := by
  have HQ1 := hide (samePath_any a b ss tt cap cap' B C w h h' hl hl')
  have HQ2 := hide (fun W (x : Strs W B a ss) (y : Strs W C b tt) => under_any a b ss tt cap cap' B C W x y hl hl' hc hm)
  have HD := hide (show deepP ss tt = (sameL ss tt || underB ss tt) from rfl)
  generalize deepP ss tt = z at *
  generalize sameL ss tt = z1 at *
  generalize underB ss tt = z2 at *
  cases z1
  · go_enter Try.func20, Try.ntmps20
    go_wp2_with fail
    refine HQ1.out.mono ?_
    rintro e w1 ⟨rfl, hb1⟩
    have X1 := hide (HQ2.out w1 (h.below (hb1 B) (Nat.le_refl _)) (h'.below (hb1 C) (Nat.le_refl _)))
    clear HQ1 HQ2
    go_wp2_with fail
    refine X1.out.mono ?_
    rintro e w2 ⟨rfl, hb2⟩
    have HZ := hide (HD.out.trans (Bool.false_or z2))
    clear HD X1
    go_wp2
    go_ret
    exact ⟨by rw [HZ.out]; rfl, fun D => (hb1 D).trans (hb2 D)⟩
  · have HZ := hide (HD.out.trans (Bool.true_or z2))
    clear HD
    go_enter Try.func20, Try.ntmps20
    go_wp2_with fail
    refine HQ1.out.mono ?_
    rintro e w1 ⟨rfl, hb1⟩
    go_wp2
    go_ret
    exact ⟨by rw [HZ.out]; rfl, hb1⟩
end Go.Proofs.Ytepdfppbnepamac
