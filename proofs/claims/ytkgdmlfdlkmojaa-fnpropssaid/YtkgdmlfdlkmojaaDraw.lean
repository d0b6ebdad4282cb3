/-
  The cursor over the bytes of a draw: what each call does to it.
-/
import Derived.Test.YtkgdmlfdlkmojaaRows
import Derived.Test.YtkgdmlfdlkmojaaMathDraw
import Derived.WalkKit
import Derived.WalkSpells
import Derived.WalkLawsBesides
import Derived.Deep.Light
import Derived.Deep.QuietTactic
import Derived.BigQuiet
namespace Go.Proofs.Ytkgdmlfdlkmojaa
open Go.RowKit M

/-- The bytes of a draw, in memory: the first len of zs. -/
structure CodeAt (w : World) (a : Option Addr) (len : Nat) (zs : List Int) : Prop where
  le : len ≤ zs.length
  bd : ∀ j, j < len → 0 ≤ zs.getD j 0 ∧ zs.getD j 0 ≤ 255
  at0 : 0 < len → ∃ b off, a = some ⟨b, off, none⟩ ∧ ∀ j, j < len → w.cell? ⟨b, off + j, none⟩ = some (.int .u8 (zs.getD j 0))

/-- A cursor in block N: the bytes, the place, the number mixed. -/
structure Cur (w : World) (N : Nat) (sl : Value) (c : St) : Prop where
  c0 : w.cell? ⟨N, 0, none⟩ = some sl
  c1 : w.cell? ⟨N, 1, none⟩ = some (.int .i64 c.i)
  c2 : w.cell? ⟨N, 2, none⟩ = some (.int .i64 c.h)
  f1 : w.frozen? ⟨N, 1, none⟩ = false
  f2 : w.frozen? ⟨N, 2, none⟩ = false

theorem grown_trans {a b c : World} {r : Option Nat} (h : a.grownBy b r) (k : b.grownBy c r) : a.grownBy c r :=
  ⟨k.os.trans h.os, k.tape.trans h.tape, k.output.trans h.output, Nat.le_trans h.size k.size, fun i hi hr => (k.block i (Nat.lt_of_lt_of_le hi h.size) hr).trans (h.block i hi hr)⟩
theorem grown_refl (a : World) (r : Option Nat) : a.grownBy a r := ⟨rfl, rfl, rfl, Nat.le_refl _, fun _ _ _ => rfl⟩
theorem grown_drewN {a b : World} {r : Option Nat} (h : a.grownBy b r) (n : Nat) : a.grownBy (b.drewN n) r := ⟨h.os, h.tape, h.output, h.size, h.block⟩
theorem grown_set {a b : World} {N : Nat} (h : a.grownBy b (some N)) (o : Nat) (v : Value) : a.grownBy (b.setCell ⟨N, o, none⟩ v) (some N) := by
  have hb := (Below.refl N b).setCell (p := ⟨N, o, none⟩) (Nat.le_refl _) v
  refine ⟨hb.os.trans h.os, hb.tape.trans h.tape, hb.output.trans h.output, Nat.le_trans h.size hb.size, fun i hi hr => ?_⟩
  rw [← h.block i hi hr]
  have hne : N ≠ i := fun e => hr (by rw [e])
  simp only [World.setCell]
  split
  · simp_all
  · rw [Array.getElem?_modify, if_neg hne]
theorem grown_alloc {a b : World} {r : Option Nat} (h : a.grownBy b r) (o : Obj) : a.grownBy (b.alloc o) r :=
  ⟨h.os, h.tape, h.output, Nat.le_trans h.size (by simp), fun i hi hr => (Below.heap_alloc b o i (Nat.lt_of_lt_of_le hi h.size)).trans (h.block i hi hr)⟩
theorem grown_below {a b : World} {N B : Nat} (h : a.grownBy b (some N)) (hB : B ≤ N) (hBa : B ≤ a.heap.size) : Below B a b :=
  ⟨h.os, h.tape, h.output, h.size, fun k hk => h.block k (by omega) (fun e => by cases e; omega)⟩

theorem Cur.set2 {w : World} {N : Nat} {sl : Value} {c : St} (hc : Cur w N sl c) (h : Int) : Cur (w.setCell ⟨N, 2, none⟩ (.int .i64 h)) N sl ⟨c.i, h⟩ :=
  ⟨by rw [World.cell?_setCell_other _ _ _ _ (by simp)]; exact hc.c0, by rw [World.cell?_setCell_other _ _ _ _ (by simp)]; exact hc.c1, World.cell?_setCell_same _ _ _ hc.c2, by rw [World.frozen?_setCell]; exact hc.f1, by rw [World.frozen?_setCell]; exact hc.f2⟩
theorem Cur.set1 {w : World} {N : Nat} {sl : Value} {c : St} (hc : Cur w N sl c) (i : Nat) (v : Int) (hv : v = (i : Int)) : Cur (w.setCell ⟨N, 1, none⟩ (.int .i64 v)) N sl ⟨i, c.h⟩ := by
  subst hv
  exact ⟨by rw [World.cell?_setCell_other _ _ _ _ (by simp)]; exact hc.c0, World.cell?_setCell_same _ _ _ hc.c1, by rw [World.cell?_setCell_other _ _ _ _ (by simp)]; exact hc.c2, by rw [World.frozen?_setCell]; exact hc.f1, by rw [World.frozen?_setCell]; exact hc.f2⟩
theorem Cur.drewN {w : World} {N : Nat} {sl : Value} {c : St} (hc : Cur w N sl c) (n : Nat) : Cur (w.drewN n) N sl c := ⟨hc.c0, hc.c1, hc.c2, hc.f1, hc.f2⟩

set_option maxHeartbeats 1000000 in
theorem l1Byte_any (N : Nat) (a : Option Addr) (len cap : Nat) (zs : List Int) (c : St) (w : World) (hc : Cur w N (.slice a len cap) c) (hd : CodeAt w a len zs) (hbN : 0 < len → ∀ b off, a = some ⟨b, off, none⟩ → b < N) (hlen : len ≤ 1048576) :
    Calls Try.prog 85 #[.pointer (some ⟨N, 0, none⟩)] w fun e w' => e = .returned (.int .i64 (xByte zs len c.i c.h)) ∧ Cur w' N (.slice a len cap) (next len c) ∧ w.grownBy w' (some N) := by
  have HC : Hid (Cur w N (.slice a len cap) c) := hc
  obtain ⟨c0, c1, c2, f1, f2⟩ := hc
  obtain ⟨i, h⟩ := c
  simp only at c1 c2
  by_cases hi : i < len
  · obtain ⟨b, off, rfl, hcell⟩ := hd.at0 (by omega)
    have hb := hd.bd i hi
    have hcx := hcell i hi
    have hi' : (i : Int) < (len : Int) := by omega
    have HX : Hid (xByte zs len i h = (xMix h + zs.getD i 0) % 256) := by unfold xByte; exact if_pos hi
    have HN : Hid (next len ⟨i, h⟩ = ⟨i + 1, hNext h⟩) := by unfold next iNext; rw [if_pos hi]; exact rfl
    clear hd hcell
    generalize zs.getD i 0 = z at hb hcx HX
    obtain ⟨hb0, hb1⟩ := hb
    have hlt := hbN (by omega) b off rfl
    have hcx2 : ∀ v, (w.setCell ⟨N, 2, none⟩ v).cell? ⟨b, off + i, none⟩ = some (.int .u8 z) := fun v => by
      rw [World.cell?_setCell_other _ _ _ _ (fun e => by have := congrArg Addr.block e; simp only at this; omega)]; exact hcx
    clear hbN hlt
    have hx := xMix_bd h
    have HM : Hid (bits BinOp.and IntKind.i64 (bits BinOp.xor IntKind.i64 (wrap64 (wrap64 (h * 6364136223846793005) + 1442695040888963407) / 8589934592) (wrap64 (wrap64 (h * 6364136223846793005) + 1442695040888963407) / 140737488355328)) 255 = xMix h) := by
      show _ = _
      rw [i64_and255]; rfl
    go_enter Try.func85, Try.ntmps85
    go_wp2
    go_quiet (fail)
    rw [HM.out]
    go_wp2
    go_quiet (fail)
    go_wp2
    go_quiet (fail)
    go_wp2
    go_ret
    refine ⟨?_, ?_, ?_⟩
    · rw [HX.out]
      simp only [i64_and255]
      rfl
    · rw [HN.out]
      exact ((HC.out.set2 _).drewN _).set1 (i + 1) ((i : Int) + 1) (by simp)
    · exact grown_set (grown_drewN (grown_set (grown_refl _ _) _ _) _) _ _
  · have hi' : ¬ (i : Int) < (len : Int) := by omega
    have HX : Hid (xByte zs len i h = xMix h) := by unfold xByte; exact if_neg hi
    have HN : Hid (next len ⟨i, h⟩ = ⟨i, hNext h⟩) := by unfold next iNext; rw [if_neg hi]; exact rfl
    clear hd
    go_enter Try.func85, Try.ntmps85
    go_wp2
    go_quiet (fail)
    go_wp2
    go_quiet (fail)
    go_wp2
    go_ret
    refine ⟨?_, ?_, grown_drewN (grown_drewN (grown_set (grown_refl _ _) _ _) _) _⟩
    · rw [HX.out]
      simp only [xMix, hNext, i64_and255]
      rfl
    · rw [HN.out]
      exact ((HC.out.set2 _).drewN _).drewN _

theorem cur_le {N : Nat} {w w' : World} (h : w.grownBy w' (some N)) {a : Option Addr} {len : Nat} {zs : List Int} (hd : CodeAt w a len zs) (hbN : 0 < len → ∀ b off, a = some ⟨b, off, none⟩ → b < N) : CodeAt w' a len zs := by
  refine ⟨hd.le, hd.bd, fun h0 => ?_⟩
  obtain ⟨b, off, rfl, hc⟩ := hd.at0 h0
  refine ⟨b, off, rfl, fun j hj => ?_⟩
  refine h.cell (hc j hj) ?_
  have := hbN h0 b off rfl
  simp only [ne_eq, Option.some.injEq]
  omega

set_option maxHeartbeats 1000000 in
theorem l1Below_any (N : Nat) (a : Option Addr) (len cap : Nat) (zs : List Int) (c : St) (n : Int) (w : World) (hc : Cur w N (.slice a len cap) c) (hd : CodeAt w a len zs) (hbN : 0 < len → ∀ b off, a = some ⟨b, off, none⟩ → b < N) (hlen : len ≤ 1048576) (hn : 0 < n) (hn2 : n ≤ 1000000) :
    Calls Try.prog 70 #[.pointer (some ⟨N, 0, none⟩), .int .i64 n] w fun e w' => e = .returned (.int .i64 (belowV zs len c n)) ∧ Cur w' N (.slice a len cap) (belowS len c n) ∧ w.grownBy w' (some N) := by
  have HB : Hid (0 < len → ∀ b off, a = some ⟨b, off, none⟩ → b < N) := hbN
  have HC : Hid (Cur w N (.slice a len cap) c) := hc
  have HD : Hid (CodeAt w a len zs) := hd
  clear hbN hc hd
  have hn' : ¬ n ≤ 0 := by omega
  have hx1 := xByte_bd zs len c.i c.h
  by_cases h256 : n ≤ 256
  · have HV : Hid (belowV zs len c n = xByte zs len c.i c.h % n) := by unfold belowV; exact if_pos h256
    have HS : Hid (belowS len c n = next len c) := by unfold belowS; exact if_pos h256
    go_enter Try.func70, Try.ntmps70
    go_wp2_with (go_at_call 85; refine (l1Byte_any N a len cap zs c _ HC.out HD.out HB.out hlen).mono ?_; rintro e w1 ⟨rfl, hc1, hg1⟩)
    go_ret
    exact ⟨by rw [HV.out]; rfl, by rw [HS.out]; exact hc1, hg1⟩
  · have HV : Hid (belowV zs len c n = (xByte zs len c.i c.h * 65536 + xByte zs len (next len c).i (next len c).h * 256 + xByte zs len (next len (next len c)).i (next len (next len c)).h) % n) := by unfold belowV; exact if_neg h256
    have HS : Hid (belowS len c n = next len (next len (next len c))) := by unfold belowS; exact if_neg h256
    have hx2 := xByte_bd zs len (next len c).i (next len c).h
    have hx3 := xByte_bd zs len (next len (next len c)).i (next len (next len c)).h
    go_enter Try.func70, Try.ntmps70
    go_wp2_with fail
    refine (l1Byte_any N a len cap zs c _ HC.out HD.out HB.out hlen).mono ?_
    rintro e w1 ⟨rfl, hc1, hg1⟩
    have HC1 : Hid (Cur w1 N (.slice a len cap) (next len c)) := hc1
    clear hc1
    go_wp2_with fail
    refine (l1Byte_any N a len cap zs (next len c) _ HC1.out (cur_le hg1 HD.out HB.out) HB.out hlen).mono ?_
    rintro e w2 ⟨rfl, hc2, hg2⟩
    have HC2 : Hid (Cur w2 N (.slice a len cap) (next len (next len c))) := hc2
    clear hc2
    go_wp2_with fail
    refine (l1Byte_any N a len cap zs (next len (next len c)) _ HC2.out (cur_le (grown_trans hg1 hg2) HD.out HB.out) HB.out hlen).mono ?_
    rintro e w3 ⟨rfl, hc3, hg3⟩
    go_wp2
    go_ret
    exact ⟨by rw [HV.out]; rfl, by rw [HS.out]; exact hc3, grown_trans (grown_trans hg1 hg2) hg3⟩
end Go.Proofs.Ytkgdmlfdlkmojaa
