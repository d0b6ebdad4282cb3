/-
  A new cursor; what is picked of a list.
-/
import Derived.Test.YtkgdmlfdlkmojaaDraw
namespace Go.Proofs.Ytkgdmlfdlkmojaa
open Go.RowKit M

theorem cur_new (w : World) (sl : Value) (m : Int) (T : TypeId) : Cur (w.alloc (Obj.cells #[sl, .int .i64 0, .int .i64 m] T)) w.heap.size sl ⟨0, m⟩ :=
  ⟨by simp, by simp, by simp, by simp, by simp⟩

set_option maxHeartbeats 1000000 in
set_option maxRecDepth 100000 in
theorem l1New_any (a : Option Addr) (len cap : Nat) (zs : List Int) (w : World) (hd : CodeAt w a len zs) (hlen : len ≤ 1048576) :
    Calls Try.prog 36 #[.slice a len cap] w fun e w' => e = .returned (.pointer (some ⟨w.heap.size, 0, none⟩)) ∧ Cur w' w.heap.size (.slice a len cap) (newS zs len) ∧ Below w.heap.size w w' ∧ w'.heap.size = w.heap.size + 1 := by
  have HD : Hid (CodeAt w a len zs) := hd
  have hle := hd.le
  clear hd
  go_enter Try.func36, Try.ntmps36
  go_wp2
  go_loop [3, 4] (fun h i => ∃ k : Nat, k ≤ len ∧ k ≤ 4000 ∧ i = .int .i64 k ∧ h = .int .i64 (mixF (774774 + (len : Int)) (zs.take k))) (fun _ i => len - (intOf i).toNat)
  case atStart => exact ⟨0, Nat.zero_le _, Nat.zero_le _, rfl, rfl⟩
  case round =>
    obtain ⟨k, hk, hk4, rfl, rfl⟩ := hrel
    have hm := mixF_bd (774774 + (len : Int)) (zs.take k) (by omega) (by omega)
    by_cases hlt : k < len
    · by_cases h4 : k < 4000
      · obtain ⟨b, off, rfl, hcell⟩ := HD.out.at0 (by omega)
        have hcx := hcell k hlt
        have hb := HD.out.bd k hlt
        have HS : Hid (mixF (774774 + (len : Int)) (zs.take (k + 1)) = (mixF (774774 + (len : Int)) (zs.take k) * 137 + zs.getD k 0 + 11) % 1073741824) := by
          show _ = _
          rw [take_snocZ zs k (by omega), mixF_snoc]
        clear hcell
        obtain ⟨m, hmm⟩ : ∃ m, m = mixF (774774 + (len : Int)) (zs.take k) := ⟨_, rfl⟩
        rw [← hmm] at hm HS ⊢
        clear hmm
        generalize zs.getD k 0 = z at hcx hb HS
        go_wp2
        go_round
        case rel =>
          refine ⟨k + 1, by omega, by omega, by go_num, ?_⟩
          rw [HS.out]
          simp only [i64_and30]
        case measure => simp [intOf]; omega
      · have e4 : newS zs len = ⟨0, mixF (774774 + (len : Int)) (zs.take k)⟩ := by
          unfold newS
          rw [List.take_take, show min 4000 len = k by omega]
        have HE : Hid (newS zs len = ⟨0, mixF (774774 + (len : Int)) (zs.take k)⟩) := e4
        clear e4
        obtain ⟨m, hmm⟩ : ∃ m, m = mixF (774774 + (len : Int)) (zs.take k) := ⟨_, rfl⟩
        rw [← hmm] at hm HE ⊢
        clear hmm
        go_wp2
        go_ret
        exact ⟨rfl, by rw [HE.out]; exact cur_new _ _ _ _, (Below.refl _ _).alloc (Nat.le_refl _) _, by simp⟩
    · have e4 : newS zs len = ⟨0, mixF (774774 + (len : Int)) (zs.take k)⟩ := by
        unfold newS
        rw [List.take_take, show min 4000 len = k by omega]
      have HE : Hid (newS zs len = ⟨0, mixF (774774 + (len : Int)) (zs.take k)⟩) := e4
      clear e4
      obtain ⟨m, hmm⟩ : ∃ m, m = mixF (774774 + (len : Int)) (zs.take k) := ⟨_, rfl⟩
      rw [← hmm] at hm HE ⊢
      clear hmm
      go_wp2
      go_ret
      exact ⟨rfl, by rw [HE.out]; exact cur_new _ _ _ _, (Below.refl _ _).alloc (Nat.le_refl _) _, by simp⟩

set_option maxHeartbeats 400000 in
theorem l1Str_any (N M : Nat) (a : Option Addr) (len cap n : Nat) (zs : List Int) (ss : List ByteArray) (c : St) (w : World) (hc : Cur w N (.slice a len cap) c) (hd : CodeAt w a len zs) (hbN : 0 < len → ∀ b off, a = some ⟨b, off, none⟩ → b < N) (hlen : len ≤ 1048576) (hn : 0 < n) (hn2 : n ≤ 256) (hMN : M ≠ N)
    (hls : ∀ j, j < n → w.cell? ⟨M, j, none⟩ = some (.string (ss.getD j ByteArray.empty))) :
    Calls Try.prog 45 #[.pointer (some ⟨N, 0, none⟩), .slice (some ⟨M, 0, none⟩) n n] w fun e w' => e = .returned (.string (ss.getD (pick zs len c n) ByteArray.empty)) ∧ Cur w' N (.slice a len cap) (belowS len c n) ∧ w.grownBy w' (some N) := by
  have HB : Hid (Calls Try.prog 70 #[.pointer (some ⟨N, 0, none⟩), .int .i64 (n : Int)] w fun e w' => e = .returned (.int .i64 (belowV zs len c n)) ∧ Cur w' N (.slice a len cap) (belowS len c n) ∧ w.grownBy w' (some N)) :=
    l1Below_any N a len cap zs c n w hc hd hbN hlen (by omega) (by omega)
  have HL : Hid (∀ j, j < n → w.cell? ⟨M, j, none⟩ = some (.string (ss.getD j ByteArray.empty))) := hls
  have hp := pick_lt zs len c n hn
  have ep : belowV zs len c n = (pick zs len c n : Int) := by
    have := belowV_bd zs len c n (by omega)
    unfold pick
    omega
  rw [ep] at HB
  clear hbN hc hd hls ep
  generalize pick zs len c n = p at *
  go_enter Try.func45, Try.ntmps45
  go_wp2_with fail
  refine HB.out.mono ?_
  rintro e w1 ⟨rfl, hc1, hg1⟩
  have hcx : w1.cell? ⟨M, p, none⟩ = some (.string (ss.getD p ByteArray.empty)) := hg1.cell (HL.out p hp) (by simpa using hMN)
  have HC1 : Hid (Cur w1 N (.slice a len cap) (belowS len c n)) := hc1
  have HG1 : Hid (w.grownBy w1 (some N)) := hg1
  clear hc1 hg1 HL
  go_wp2
  go_ret
  exact ⟨rfl, HC1.out, HG1.out⟩
end Go.Proofs.Ytkgdmlfdlkmojaa
