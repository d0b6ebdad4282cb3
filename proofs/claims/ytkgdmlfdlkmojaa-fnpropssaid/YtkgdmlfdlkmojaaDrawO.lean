/-
  What spec.l1Once does.
-/
import Derived.Test.YtkgdmlfdlkmojaaDraw2
namespace Go.Proofs.Ytkgdmlfdlkmojaa
open Go.RowKit M

set_option maxHeartbeats 400000 in
theorem l1Once_any (N : Nat) (a : Option Addr) (len cap : Nat) (zs : List Int) (c : St) (n : Int) (w : World) (hc : Cur w N (.slice a len cap) c) (hd : CodeAt w a len zs) (hbN : 0 < len → ∀ b off, a = some ⟨b, off, none⟩ → b < N) (hlen : len ≤ 1048576) (hn : 0 < n) (hn2 : n ≤ 1000000) :
    Calls Try.prog 68 #[.pointer (some ⟨N, 0, none⟩), .int .i64 n] w fun e w' => e = .returned (.bool (belowV zs len c n == 0)) ∧ Cur w' N (.slice a len cap) (belowS len c n) ∧ w.grownBy w' (some N) := by
  have HB : Hid (∀ W, Cur W N (.slice a len cap) c → CodeAt W a len zs → Calls Try.prog 70 #[.pointer (some ⟨N, 0, none⟩), .int .i64 n] W fun e w' => e = .returned (.int .i64 (belowV zs len c n)) ∧ Cur w' N (.slice a len cap) (belowS len c n) ∧ W.grownBy w' (some N)) :=
    fun W h1 h2 => l1Below_any N a len cap zs c n W h1 h2 hbN hlen hn hn2
  have HC : Hid (Cur w N (.slice a len cap) c) := hc
  have HD : Hid (CodeAt w a len zs) := hd
  clear hbN hc hd
  generalize belowV zs len c n = v at *
  go_enter Try.func68, Try.ntmps68
  go_wp2_with (go_at_call 70; refine (HB.out _ HC.out HD.out).mono ?_; rintro e w1 ⟨rfl, hc1, hg1⟩)
  go_ret
  exact ⟨rfl, hc1, hg1⟩
end Go.Proofs.Ytkgdmlfdlkmojaa
