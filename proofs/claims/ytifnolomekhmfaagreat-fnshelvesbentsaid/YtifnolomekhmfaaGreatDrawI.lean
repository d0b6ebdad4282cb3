/-
  A number that is picked of a list.
-/
import Derived.Test.YtifnolomekhmfaaGreatHide
namespace Go.Proofs.YtifnolomekhmfaaGreat
open Go.RowKit M

set_option maxHeartbeats 400000 in
theorem l1Int_any (N M : Nat) (a : Option Addr) (len cap n : Nat) (zs ls : List Int) (c : St) (w : World) (hc : Cur w N (.slice a len cap) c) (hd : CodeAt w a len zs) (hbN : 0 < len → ∀ b off, a = some ⟨b, off, none⟩ → b < N) (hlen : len ≤ 1048576) (hn : 0 < n) (hn2 : n ≤ 256) (hMN : M ≠ N)
    (hls : ∀ j, j < n → w.cell? ⟨M, j, none⟩ = some (.int .i64 (ls.getD j 0))) :
    Calls Tryz.prog 104 #[.pointer (some ⟨N, 0, none⟩), .slice (some ⟨M, 0, none⟩) n n] w fun e w' => e = .returned (.int .i64 (ls.getD (pick zs len c n) 0)) ∧ Cur w' N (.slice a len cap) (belowS len c n) ∧ w.grownBy w' (some N) := by
  have HB : Hid (Calls Tryz.prog 66 #[.pointer (some ⟨N, 0, none⟩), .int .i64 (n : Int)] w fun e w' => e = .returned (.int .i64 (belowV zs len c n)) ∧ Cur w' N (.slice a len cap) (belowS len c n) ∧ w.grownBy w' (some N)) :=
    l1Below_any N a len cap zs c n w hc hd hbN hlen (by omega) (by omega)
  have HL : Hid (∀ j, j < n → w.cell? ⟨M, j, none⟩ = some (.int .i64 (ls.getD j 0))) := hls
  have hp := pick_lt zs len c n hn
  have ep : belowV zs len c n = (pick zs len c n : Int) := by
    have := belowV_bd zs len c n (by omega)
    unfold pick
    omega
  rw [ep] at HB
  clear hbN hc hd hls ep
  generalize pick zs len c n = p at *
  go_enter Tryz.func104, Tryz.ntmps104
  go_wp2_with fail
  refine HB.out.mono ?_
  rintro e w1 ⟨rfl, hc1, hg1⟩
  have hcx : w1.cell? ⟨M, p, none⟩ = some (.int .i64 (ls.getD p 0)) := hg1.cell (HL.out p hp) (by simpa using hMN)
  have HC1 : Hid (Cur w1 N (.slice a len cap) (belowS len c n)) := hc1
  have HG1 : Hid (w.grownBy w1 (some N)) := hg1
  clear hc1 hg1 HL
  go_wp2
  go_ret
  exact ⟨rfl, HC1.out, HG1.out⟩

end Go.Proofs.YtifnolomekhmfaaGreat
