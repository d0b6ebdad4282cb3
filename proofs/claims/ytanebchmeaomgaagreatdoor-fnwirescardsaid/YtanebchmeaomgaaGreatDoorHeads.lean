/-
  The numbers that a draw mixes: no program in sight but the model's own wraps and bits.
  The cursor over the bytes of a draw: what each call does to it.
  A new cursor; what is picked of a list.
  Texts that are drawn.
  The bytes of a draw, and a new cursor on them.
  A cursor, wherever it stands: what is drawn by it, and that all else stays.
  What stands in a walk's context and is not to be used by it.
  Plain facts on bytes, their kinds, and texts of them: no program in sight.
  Plain facts on a text without the blanks at its ends: no program in sight.
  Plain facts on small names: no program in sight.
  Plain facts on requests: which are right, and their heads: no program in sight.
  Slices of heads: what they hold, and that it stays.
-/
import Derived.Laws.BitsLemmas
import Derived.Laws.Wrap64
import Derived.WalkKit
import Derived.Test.YtanebchmeaomgaaGreatDoorRows
import Derived.WalkSpells
import Derived.WalkLawsBesides
import Derived.Deep.Light
import Derived.Deep.QuietTactic
import Derived.BigQuiet
import Derived.Below
import Derived.Lib.Bytealg
import Derived.Deep.OwnRows
namespace Go.Proofs.YtanebchmeaomgaaGreatDoor.M
open Go Go.RowKit

theorem i64_and255 (n : Int) : bits .and .i64 n 255 = n % 256 := by
  have h8 : (BitVec.ofInt 64 255).toNat = 2 ^ 8 - 1 := by decide
  have key : (BitVec.ofInt 64 n &&& BitVec.ofInt 64 255).toNat = (n % ((2 ^ 64 : Nat) : Int)).toNat % 2 ^ 8 := by
    rw [BitVec.toNat_and, BitVec.toNat_ofInt, h8, Nat.and_two_pow_sub_one_eq_mod]
  show IntKind.i64.wrap ((BitVec.ofInt 64 n &&& BitVec.ofInt 64 255).toNat : Nat) = n % 256
  rw [key, IntKind.wrap_i64]
  omega

theorem i64_and30 (n : Int) : bits .and .i64 n 1073741823 = n % 1073741824 := by
  have h30 : (BitVec.ofInt 64 1073741823).toNat = 2 ^ 30 - 1 := by decide
  have key : (BitVec.ofInt 64 n &&& BitVec.ofInt 64 1073741823).toNat = (n % ((2 ^ 64 : Nat) : Int)).toNat % 2 ^ 30 := by
    rw [BitVec.toNat_and, BitVec.toNat_ofInt, h30, Nat.and_two_pow_sub_one_eq_mod]
  show IntKind.i64.wrap ((BitVec.ofInt 64 n &&& BitVec.ofInt 64 1073741823).toNat : Nat) = n % 1073741824
  rw [key, IntKind.wrap_i64]
  omega

/-- The next number mixed. -/
def hNext (h : Int) : Int := wrap64 (wrap64 (h * 6364136223846793005) + 1442695040888963407)
/-- The byte that follows from it. -/
def xMix (h : Int) : Int := bits .xor .i64 (hNext h / 8589934592) (hNext h / 140737488355328) % 256
theorem xMix_bd (h : Int) : 0 ≤ xMix h ∧ xMix h ≤ 255 := by unfold xMix; omega

/-- What a draw's byte is, of the bytes zs (the first len of them), the place and the number mixed; and the place behind it. -/
def xByte (zs : List Int) (len : Nat) (i : Nat) (h : Int) : Int := if i < len then (xMix h + zs.getD i 0) % 256 else xMix h
def iNext (len i : Nat) : Nat := if i < len then i + 1 else i
theorem xByte_bd (zs : List Int) (len i : Nat) (h : Int) : 0 ≤ xByte zs len i h ∧ xByte zs len i h ≤ 255 := by
  have := xMix_bd h
  unfold xByte
  split <;> omega
theorem iNext_le {len i : Nat} (h : i ≤ len) : iNext len i ≤ len := by unfold iNext; split <;> omega

/-- The cursor's state: the place and the number mixed. -/
structure St where
  i : Nat
  h : Int

def next (len : Nat) (c : St) : St := ⟨iNext len c.i, hNext c.h⟩

/-- What l1Below draws (n above 0), and the state behind it. -/
def belowV (zs : List Int) (len : Nat) (c : St) (n : Int) : Int :=
  if n ≤ 256 then xByte zs len c.i c.h % n
  else (xByte zs len c.i c.h * 65536 + xByte zs len (next len c).i (next len c).h * 256 + xByte zs len (next len (next len c)).i (next len (next len c)).h) % n
def belowS (len : Nat) (c : St) (n : Int) : St := if n ≤ 256 then next len c else next len (next len (next len c))

theorem belowV_bd (zs : List Int) (len : Nat) (c : St) (n : Int) (hn : 0 < n) : 0 ≤ belowV zs len c n ∧ belowV zs len c n < n := by
  unfold belowV
  split
  · exact ⟨Int.emod_nonneg _ (by omega), Int.emod_lt_of_pos _ hn⟩
  · exact ⟨Int.emod_nonneg _ (by omega), Int.emod_lt_of_pos _ hn⟩

theorem next_le {len : Nat} {c : St} (h : c.i ≤ len) : (next len c).i ≤ len := iNext_le h
theorem belowS_le {len : Nat} {c : St} {n : Int} (h : c.i ≤ len) : (belowS len c n).i ≤ len := by
  unfold belowS
  split
  · exact next_le h
  · exact next_le (next_le (next_le h))

/-- The first state. -/
def mixF (h : Int) (l : List Int) : Int := l.foldl (fun h z => (h * 137 + z + 11) % 1073741824) h
def newS (zs : List Int) (len : Nat) : St := ⟨0, mixF (774774 + (len : Int)) ((zs.take len).take 4000)⟩

theorem mixF_snoc (h : Int) (l : List Int) (z : Int) : mixF h (l ++ [z]) = (mixF h l * 137 + z + 11) % 1073741824 := by simp [mixF]
theorem mixF_bd (h : Int) (l : List Int) (h0 : 0 ≤ h) (h1 : h < 1073741824) : 0 ≤ mixF h l ∧ mixF h l < 1073741824 := by
  induction l generalizing h with
  | nil => exact ⟨h0, h1⟩
  | cons z r ih => exact ih _ (Int.emod_nonneg _ (by omega)) (Int.emod_lt_of_pos _ (by omega))
theorem take_snocZ (zs : List Int) (k : Nat) (h : k < zs.length) : zs.take (k + 1) = zs.take k ++ [zs.getD k 0] := by
  rw [List.take_succ_eq_append_getElem h]
  simp [List.getD_eq_getElem?_getD, List.getElem?_eq_getElem h]

/-- What l1Int and l1Str pick of a list of n. -/
def pick (zs : List Int) (len : Nat) (c : St) (n : Nat) : Nat := (belowV zs len c n).toNat
theorem pick_lt (zs : List Int) (len : Nat) (c : St) (n : Nat) (h : 0 < n) : pick zs len c n < n := by
  have := belowV_bd zs len c n (by omega)
  unfold pick
  omega

end Go.Proofs.YtanebchmeaomgaaGreatDoor.M
namespace Go.Proofs.YtanebchmeaomgaaGreatDoor
open Go.RowKit M

/-- The bytes of a draw, in memory: the first len of zs. -/
structure CodeAt (w : World) (a : Option Addr) (len : Nat) (zs : List Int) : Prop where
  le : len ≤ zs.length
  bd : ∀ j, j < len → 0 ≤ zs.getD j 0 ∧ zs.getD j 0 ≤ 255
  at0 : 0 < len → ∃ b off, a = some ⟨b, off, none⟩ ∧ ∀ j, j < len → w.cell? ⟨b, off + j, none⟩ = some (.int .u8 (zs.getD j 0))

/-- A cursor in block N: the bytes, the place, the number mixed. -/
structure Cur (w : World) (N : Nat) (sl : Value) (c : St) : Prop where
  c0 : w.cell? ⟨N, 0, none⟩ = some sl
  c1 : w.cell? ⟨N, 1, none⟩ = some (.int .i64 c.i)
  c2 : w.cell? ⟨N, 2, none⟩ = some (.int .i64 c.h)
  f1 : w.frozen? ⟨N, 1, none⟩ = false
  f2 : w.frozen? ⟨N, 2, none⟩ = false

theorem grown_trans {a b c : World} {r : Option Nat} (h : a.grownBy b r) (k : b.grownBy c r) : a.grownBy c r :=
  ⟨k.os.trans h.os, k.tape.trans h.tape, k.output.trans h.output, Nat.le_trans h.size k.size, fun i hi hr => (k.block i (Nat.lt_of_lt_of_le hi h.size) hr).trans (h.block i hi hr)⟩
theorem grown_refl (a : World) (r : Option Nat) : a.grownBy a r := ⟨rfl, rfl, rfl, Nat.le_refl _, fun _ _ _ => rfl⟩
theorem grown_drewN {a b : World} {r : Option Nat} (h : a.grownBy b r) (n : Nat) : a.grownBy (b.drewN n) r := ⟨h.os, h.tape, h.output, h.size, h.block⟩
theorem grown_set {a b : World} {N : Nat} (h : a.grownBy b (some N)) (o : Nat) (v : Value) : a.grownBy (b.setCell ⟨N, o, none⟩ v) (some N) := by
  have hb := (Below.refl N b).setCell (p := ⟨N, o, none⟩) (Nat.le_refl _) v
  refine ⟨hb.os.trans h.os, hb.tape.trans h.tape, hb.output.trans h.output, Nat.le_trans h.size hb.size, fun i hi hr => ?_⟩
  rw [← h.block i hi hr]
  have hne : N ≠ i := fun e => hr (by rw [e])
  simp only [World.setCell]
  split
  · simp_all
  · rw [Array.getElem?_modify, if_neg hne]
theorem grown_alloc {a b : World} {r : Option Nat} (h : a.grownBy b r) (o : Obj) : a.grownBy (b.alloc o) r :=
  ⟨h.os, h.tape, h.output, Nat.le_trans h.size (by simp), fun i hi hr => (Below.heap_alloc b o i (Nat.lt_of_lt_of_le hi h.size)).trans (h.block i hi hr)⟩
theorem grown_below {a b : World} {N B : Nat} (h : a.grownBy b (some N)) (hB : B ≤ N) (hBa : B ≤ a.heap.size) : Below B a b :=
  ⟨h.os, h.tape, h.output, h.size, fun k hk => h.block k (by omega) (fun e => by cases e; omega)⟩

theorem Cur.set2 {w : World} {N : Nat} {sl : Value} {c : St} (hc : Cur w N sl c) (h : Int) : Cur (w.setCell ⟨N, 2, none⟩ (.int .i64 h)) N sl ⟨c.i, h⟩ :=
  ⟨by rw [World.cell?_setCell_other _ _ _ _ (by simp)]; exact hc.c0, by rw [World.cell?_setCell_other _ _ _ _ (by simp)]; exact hc.c1, World.cell?_setCell_same _ _ _ hc.c2, by rw [World.frozen?_setCell]; exact hc.f1, by rw [World.frozen?_setCell]; exact hc.f2⟩
theorem Cur.set1 {w : World} {N : Nat} {sl : Value} {c : St} (hc : Cur w N sl c) (i : Nat) (v : Int) (hv : v = (i : Int)) : Cur (w.setCell ⟨N, 1, none⟩ (.int .i64 v)) N sl ⟨i, c.h⟩ := by
  subst hv
  exact ⟨by rw [World.cell?_setCell_other _ _ _ _ (by simp)]; exact hc.c0, World.cell?_setCell_same _ _ _ hc.c1, by rw [World.cell?_setCell_other _ _ _ _ (by simp)]; exact hc.c2, by rw [World.frozen?_setCell]; exact hc.f1, by rw [World.frozen?_setCell]; exact hc.f2⟩
theorem Cur.drewN {w : World} {N : Nat} {sl : Value} {c : St} (hc : Cur w N sl c) (n : Nat) : Cur (w.drewN n) N sl c := ⟨hc.c0, hc.c1, hc.c2, hc.f1, hc.f2⟩

set_option maxHeartbeats 1000000 in
theorem l1Byte_any (N : Nat) (a : Option Addr) (len cap : Nat) (zs : List Int) (c : St) (w : World) (hc : Cur w N (.slice a len cap) c) (hd : CodeAt w a len zs) (hbN : 0 < len → ∀ b off, a = some ⟨b, off, none⟩ → b < N) (hlen : len ≤ 1048576) :
    Calls Tryz.prog 80 #[.pointer (some ⟨N, 0, none⟩)] w fun e w' => e = .returned (.int .i64 (xByte zs len c.i c.h)) ∧ Cur w' N (.slice a len cap) (next len c) ∧ w.grownBy w' (some N) := by
  have HC : Hid (Cur w N (.slice a len cap) c) := hc
  obtain ⟨c0, c1, c2, f1, f2⟩ := hc
  obtain ⟨i, h⟩ := c
  simp only at c1 c2
  by_cases hi : i < len
  · obtain ⟨b, off, rfl, hcell⟩ := hd.at0 (by omega)
    have hb := hd.bd i hi
    have hcx := hcell i hi
    have hi' : (i : Int) < (len : Int) := by omega
    have HX : Hid (xByte zs len i h = (xMix h + zs.getD i 0) % 256) := by unfold xByte; exact if_pos hi
    have HN : Hid (next len ⟨i, h⟩ = ⟨i + 1, hNext h⟩) := by unfold next iNext; rw [if_pos hi]; exact rfl
    clear hd hcell
    generalize zs.getD i 0 = z at hb hcx HX
    obtain ⟨hb0, hb1⟩ := hb
    have hlt := hbN (by omega) b off rfl
    have hcx2 : ∀ v, (w.setCell ⟨N, 2, none⟩ v).cell? ⟨b, off + i, none⟩ = some (.int .u8 z) := fun v => by
      rw [World.cell?_setCell_other _ _ _ _ (fun e => by have := congrArg Addr.block e; simp only at this; omega)]; exact hcx
    clear hbN hlt
    have hx := xMix_bd h
    have HM : Hid (bits BinOp.and IntKind.i64 (bits BinOp.xor IntKind.i64 (wrap64 (wrap64 (h * 6364136223846793005) + 1442695040888963407) / 8589934592) (wrap64 (wrap64 (h * 6364136223846793005) + 1442695040888963407) / 140737488355328)) 255 = xMix h) := by
      show _ = _
      rw [i64_and255]; rfl
    go_enter Tryz.func80, Tryz.ntmps80
    go_wp2
    go_quiet (fail)
    rw [HM.out]
    go_wp2
    go_quiet (fail)
    go_wp2
    go_quiet (fail)
    go_wp2
    go_ret
    refine ⟨?_, ?_, ?_⟩
    · rw [HX.out]
      simp only [i64_and255]
      rfl
    · rw [HN.out]
      exact ((HC.out.set2 _).drewN _).set1 (i + 1) ((i : Int) + 1) (by simp)
    · exact grown_set (grown_drewN (grown_set (grown_refl _ _) _ _) _) _ _
  · have hi' : ¬ (i : Int) < (len : Int) := by omega
    have HX : Hid (xByte zs len i h = xMix h) := by unfold xByte; exact if_neg hi
    have HN : Hid (next len ⟨i, h⟩ = ⟨i, hNext h⟩) := by unfold next iNext; rw [if_neg hi]; exact rfl
    clear hd
    go_enter Tryz.func80, Tryz.ntmps80
    go_wp2
    go_quiet (fail)
    go_wp2
    go_quiet (fail)
    go_wp2
    go_ret
    refine ⟨?_, ?_, grown_drewN (grown_drewN (grown_set (grown_refl _ _) _ _) _) _⟩
    · rw [HX.out]
      simp only [xMix, hNext, i64_and255]
      rfl
    · rw [HN.out]
      exact ((HC.out.set2 _).drewN _).drewN _

theorem cur_le {N : Nat} {w w' : World} (h : w.grownBy w' (some N)) {a : Option Addr} {len : Nat} {zs : List Int} (hd : CodeAt w a len zs) (hbN : 0 < len → ∀ b off, a = some ⟨b, off, none⟩ → b < N) : CodeAt w' a len zs := by
  refine ⟨hd.le, hd.bd, fun h0 => ?_⟩
  obtain ⟨b, off, rfl, hc⟩ := hd.at0 h0
  refine ⟨b, off, rfl, fun j hj => ?_⟩
  refine h.cell (hc j hj) ?_
  have := hbN h0 b off rfl
  simp only [ne_eq, Option.some.injEq]
  omega

set_option maxHeartbeats 1000000 in
theorem l1Below_any (N : Nat) (a : Option Addr) (len cap : Nat) (zs : List Int) (c : St) (n : Int) (w : World) (hc : Cur w N (.slice a len cap) c) (hd : CodeAt w a len zs) (hbN : 0 < len → ∀ b off, a = some ⟨b, off, none⟩ → b < N) (hlen : len ≤ 1048576) (hn : 0 < n) (hn2 : n ≤ 1000000) :
    Calls Tryz.prog 46 #[.pointer (some ⟨N, 0, none⟩), .int .i64 n] w fun e w' => e = .returned (.int .i64 (belowV zs len c n)) ∧ Cur w' N (.slice a len cap) (belowS len c n) ∧ w.grownBy w' (some N) := by
  have HB : Hid (0 < len → ∀ b off, a = some ⟨b, off, none⟩ → b < N) := hbN
  have HC : Hid (Cur w N (.slice a len cap) c) := hc
  have HD : Hid (CodeAt w a len zs) := hd
  clear hbN hc hd
  have hn' : ¬ n ≤ 0 := by omega
  have hx1 := xByte_bd zs len c.i c.h
  by_cases h256 : n ≤ 256
  · have HV : Hid (belowV zs len c n = xByte zs len c.i c.h % n) := by unfold belowV; exact if_pos h256
    have HS : Hid (belowS len c n = next len c) := by unfold belowS; exact if_pos h256
    go_enter Tryz.func46, Tryz.ntmps46
    go_wp2_with (go_at_call 80; refine (l1Byte_any N a len cap zs c _ HC.out HD.out HB.out hlen).mono ?_; rintro e w1 ⟨rfl, hc1, hg1⟩)
    go_ret
    exact ⟨by rw [HV.out]; rfl, by rw [HS.out]; exact hc1, hg1⟩
  · have HV : Hid (belowV zs len c n = (xByte zs len c.i c.h * 65536 + xByte zs len (next len c).i (next len c).h * 256 + xByte zs len (next len (next len c)).i (next len (next len c)).h) % n) := by unfold belowV; exact if_neg h256
    have HS : Hid (belowS len c n = next len (next len (next len c))) := by unfold belowS; exact if_neg h256
    have hx2 := xByte_bd zs len (next len c).i (next len c).h
    have hx3 := xByte_bd zs len (next len (next len c)).i (next len (next len c)).h
    go_enter Tryz.func46, Tryz.ntmps46
    go_wp2_with fail
    refine (l1Byte_any N a len cap zs c _ HC.out HD.out HB.out hlen).mono ?_
    rintro e w1 ⟨rfl, hc1, hg1⟩
    have HC1 : Hid (Cur w1 N (.slice a len cap) (next len c)) := hc1
    clear hc1
    go_wp2_with fail
    refine (l1Byte_any N a len cap zs (next len c) _ HC1.out (cur_le hg1 HD.out HB.out) HB.out hlen).mono ?_
    rintro e w2 ⟨rfl, hc2, hg2⟩
    have HC2 : Hid (Cur w2 N (.slice a len cap) (next len (next len c))) := hc2
    clear hc2
    go_wp2_with fail
    refine (l1Byte_any N a len cap zs (next len (next len c)) _ HC2.out (cur_le (grown_trans hg1 hg2) HD.out HB.out) HB.out hlen).mono ?_
    rintro e w3 ⟨rfl, hc3, hg3⟩
    go_wp2
    go_ret
    exact ⟨by rw [HV.out]; rfl, by rw [HS.out]; exact hc3, grown_trans (grown_trans hg1 hg2) hg3⟩
end Go.Proofs.YtanebchmeaomgaaGreatDoor
namespace Go.Proofs.YtanebchmeaomgaaGreatDoor
open Go.RowKit M

theorem cur_new (w : World) (sl : Value) (m : Int) (T : TypeId) : Cur (w.alloc (Obj.cells #[sl, .int .i64 0, .int .i64 m] T)) w.heap.size sl ⟨0, m⟩ :=
  ⟨by simp, by simp, by simp, by simp, by simp⟩

set_option maxHeartbeats 1000000 in
set_option maxRecDepth 100000 in
theorem l1New_any (a : Option Addr) (len cap : Nat) (zs : List Int) (w : World) (hd : CodeAt w a len zs) (hlen : len ≤ 1048576) :
    Calls Tryz.prog 38 #[.slice a len cap] w fun e w' => e = .returned (.pointer (some ⟨w.heap.size, 0, none⟩)) ∧ Cur w' w.heap.size (.slice a len cap) (newS zs len) ∧ Below w.heap.size w w' ∧ w'.heap.size = w.heap.size + 1 := by
  have HD : Hid (CodeAt w a len zs) := hd
  have hle := hd.le
  clear hd
  go_enter Tryz.func38, Tryz.ntmps38
  go_wp2
  go_loop [3, 4] (fun h i => ∃ k : Nat, k ≤ len ∧ k ≤ 4000 ∧ i = .int .i64 k ∧ h = .int .i64 (mixF (774774 + (len : Int)) (zs.take k))) (fun _ i => len - (intOf i).toNat)
  case atStart => exact ⟨0, Nat.zero_le _, Nat.zero_le _, rfl, rfl⟩
  case round =>
    obtain ⟨k, hk, hk4, rfl, rfl⟩ := hrel
    have hm := mixF_bd (774774 + (len : Int)) (zs.take k) (by omega) (by omega)
    by_cases hlt : k < len
    · by_cases h4 : k < 4000
      · obtain ⟨b, off, rfl, hcell⟩ := HD.out.at0 (by omega)
        have hcx := hcell k hlt
        have hb := HD.out.bd k hlt
        have HS : Hid (mixF (774774 + (len : Int)) (zs.take (k + 1)) = (mixF (774774 + (len : Int)) (zs.take k) * 137 + zs.getD k 0 + 11) % 1073741824) := by
          show _ = _
          rw [take_snocZ zs k (by omega), mixF_snoc]
        clear hcell
        obtain ⟨m, hmm⟩ : ∃ m, m = mixF (774774 + (len : Int)) (zs.take k) := ⟨_, rfl⟩
        rw [← hmm] at hm HS ⊢
        clear hmm
        generalize zs.getD k 0 = z at hcx hb HS
        go_wp2
        go_round
        case rel =>
          refine ⟨k + 1, by omega, by omega, by go_num, ?_⟩
          rw [HS.out]
          simp only [i64_and30]
        case measure => simp [intOf]; omega
      · have e4 : newS zs len = ⟨0, mixF (774774 + (len : Int)) (zs.take k)⟩ := by
          unfold newS
          rw [List.take_take, show min 4000 len = k by omega]
        have HE : Hid (newS zs len = ⟨0, mixF (774774 + (len : Int)) (zs.take k)⟩) := e4
        clear e4
        obtain ⟨m, hmm⟩ : ∃ m, m = mixF (774774 + (len : Int)) (zs.take k) := ⟨_, rfl⟩
        rw [← hmm] at hm HE ⊢
        clear hmm
        go_wp2
        go_ret
        exact ⟨rfl, by rw [HE.out]; exact cur_new _ _ _ _, (Below.refl _ _).alloc (Nat.le_refl _) _, by simp⟩
    · have e4 : newS zs len = ⟨0, mixF (774774 + (len : Int)) (zs.take k)⟩ := by
        unfold newS
        rw [List.take_take, show min 4000 len = k by omega]
      have HE : Hid (newS zs len = ⟨0, mixF (774774 + (len : Int)) (zs.take k)⟩) := e4
      clear e4
      obtain ⟨m, hmm⟩ : ∃ m, m = mixF (774774 + (len : Int)) (zs.take k) := ⟨_, rfl⟩
      rw [← hmm] at hm HE ⊢
      clear hmm
      go_wp2
      go_ret
      exact ⟨rfl, by rw [HE.out]; exact cur_new _ _ _ _, (Below.refl _ _).alloc (Nat.le_refl _) _, by simp⟩

set_option maxHeartbeats 400000 in
theorem l1Str_any (N M : Nat) (a : Option Addr) (len cap n : Nat) (zs : List Int) (ss : List ByteArray) (c : St) (w : World) (hc : Cur w N (.slice a len cap) c) (hd : CodeAt w a len zs) (hbN : 0 < len → ∀ b off, a = some ⟨b, off, none⟩ → b < N) (hlen : len ≤ 1048576) (hn : 0 < n) (hn2 : n ≤ 256) (hMN : M ≠ N)
    (hls : ∀ j, j < n → w.cell? ⟨M, j, none⟩ = some (.string (ss.getD j ByteArray.empty))) :
    Calls Tryz.prog 63 #[.pointer (some ⟨N, 0, none⟩), .slice (some ⟨M, 0, none⟩) n n] w fun e w' => e = .returned (.string (ss.getD (pick zs len c n) ByteArray.empty)) ∧ Cur w' N (.slice a len cap) (belowS len c n) ∧ w.grownBy w' (some N) := by
  have HB : Hid (Calls Tryz.prog 46 #[.pointer (some ⟨N, 0, none⟩), .int .i64 (n : Int)] w fun e w' => e = .returned (.int .i64 (belowV zs len c n)) ∧ Cur w' N (.slice a len cap) (belowS len c n) ∧ w.grownBy w' (some N)) :=
    l1Below_any N a len cap zs c n w hc hd hbN hlen (by omega) (by omega)
  have HL : Hid (∀ j, j < n → w.cell? ⟨M, j, none⟩ = some (.string (ss.getD j ByteArray.empty))) := hls
  have hp := pick_lt zs len c n hn
  have ep : belowV zs len c n = (pick zs len c n : Int) := by
    have := belowV_bd zs len c n (by omega)
    unfold pick
    omega
  rw [ep] at HB
  clear hbN hc hd hls ep
  generalize pick zs len c n = p at *
  go_enter Tryz.func63, Tryz.ntmps63
  go_wp2_with fail
  refine HB.out.mono ?_
  rintro e w1 ⟨rfl, hc1, hg1⟩
  have hcx : w1.cell? ⟨M, p, none⟩ = some (.string (ss.getD p ByteArray.empty)) := hg1.cell (HL.out p hp) (by simpa using hMN)
  have HC1 : Hid (Cur w1 N (.slice a len cap) (belowS len c n)) := hc1
  have HG1 : Hid (w.grownBy w1 (some N)) := hg1
  clear hc1 hg1 HL
  go_wp2
  go_ret
  exact ⟨rfl, HC1.out, HG1.out⟩
end Go.Proofs.YtanebchmeaomgaaGreatDoor
namespace Go.Proofs.YtanebchmeaomgaaGreatDoor
open Go.RowKit M

/-- All that a call on a cursor in block N wants. -/
structure DC (w : World) (N : Nat) (a : Option Addr) (len cap : Nat) (zs : List Int) (c : St) : Prop where
  cur : Cur w N (.slice a len cap) c
  code : CodeAt w a len zs
  bN : 0 < len → ∀ b off, a = some ⟨b, off, none⟩ → b < N
  hlen : len ≤ 1048576
  lt : N < w.heap.size

theorem DC.grown {w w' : World} {N : Nat} {a : Option Addr} {len cap : Nat} {zs : List Int} {c c' : St} (h : DC w N a len cap zs c) (hg : w.grownBy w' (some N)) (hc : Cur w' N (.slice a len cap) c') : DC w' N a len cap zs c' :=
  ⟨hc, cur_le hg h.code h.bN, h.bN, h.hlen, Nat.lt_of_lt_of_le h.lt hg.size⟩

theorem DC.alloc {w : World} {N : Nat} {a : Option Addr} {len cap : Nat} {zs : List Int} {c : St} (h : DC w N a len cap zs c) (o : Obj) : DC (w.alloc o) N a len cap zs c := by
  have hg : w.grownBy (w.alloc o) (some N) := grown_alloc (grown_refl _ _) o
  refine ⟨⟨?_, ?_, ?_, ?_, ?_⟩, cur_le hg h.code h.bN, h.bN, h.hlen, Nat.lt_of_lt_of_le h.lt hg.size⟩
  · exact (World.cell?_alloc_past o N 0 h.lt).trans h.cur.c0
  · exact (World.cell?_alloc_past o N 1 h.lt).trans h.cur.c1
  · exact (World.cell?_alloc_past o N 2 h.lt).trans h.cur.c2
  · exact (World.frozen?_alloc_past o N 1 h.lt).trans h.cur.f1
  · exact (World.frozen?_alloc_past o N 2 h.lt).trans h.cur.f2

theorem row_strs (w : World) (ss : List ByteArray) (T : TypeId) (C : Array Value) (n : Nat) (hC : C = (ss.map Value.string).toArray) (hn : ss.length = n) : ∀ j, j < n → (w.alloc (.cells C T)).cell? ⟨w.heap.size, j, none⟩ = some (.string (ss.getD j ByteArray.empty)) := by
  subst hC hn
  intro j hj
  rw [World.cell?_alloc_new]
  simp [List.getD_eq_getElem?_getD, List.getElem?_eq_getElem hj]

/-- l1Str at a list that was just built. -/
theorem strNew {w : World} {N : Nat} {a : Option Addr} {len cap : Nat} {zs : List Int} {c : St} (h : DC w N a len cap zs c) (ss : List ByteArray) (C : Array Value) (T : TypeId) (n M : Nat) (hM : M = w.heap.size) (hC : C = (ss.map Value.string).toArray) (hn : ss.length = n) (h0 : 0 < n) (h1 : n ≤ 256) :
    Calls Tryz.prog 63 #[.pointer (some ⟨N, 0, none⟩), .slice (some ⟨M, 0, none⟩) n n] (w.alloc (.cells C T)) fun e w' => e = .returned (.string (ss.getD (pick zs len c n) ByteArray.empty)) ∧ DC w' N a len cap zs (belowS len c n) ∧ w.grownBy w' (some N) := by
  subst hM
  have hA := h.alloc (.cells C T)
  refine (l1Str_any N w.heap.size a len cap n zs ss c _ hA.cur hA.code h.bN h.hlen h0 h1 (by have := h.lt; omega) (row_strs w ss T C n hC hn)).mono ?_
  rintro e w1 ⟨rfl, hc1, hg1⟩
  exact ⟨rfl, hA.grown hg1 hc1, grown_trans (grown_alloc (grown_refl _ _) _) hg1⟩

def textL : List ByteArray := [⟨#[]⟩, ⟨#[97]⟩, ⟨#[98]⟩, ⟨#[97, 98]⟩, ⟨#[97, 45, 98]⟩, ⟨#[65, 98]⟩, ⟨#[32, 97, 32]⟩, ⟨#[120, 49]⟩, ⟨#[116, 119, 101, 110, 116, 121, 45, 111, 110, 101, 45, 115, 109, 97, 108, 108, 45, 116, 101, 120, 116]⟩, ⟨#[97, 32, 98]⟩, ⟨#[9]⟩, ⟨#[127]⟩, ⟨#[49, 97]⟩, ⟨#[45, 97]⟩, ⟨#[60, 97, 38, 98, 62]⟩, ⟨#[34, 113, 34]⟩]
def textV (zs : List Int) (len : Nat) (c : St) : ByteArray := textL.getD (pick zs len c 16) ByteArray.empty
end Go.Proofs.YtanebchmeaomgaaGreatDoor
namespace Go.Proofs.YtanebchmeaomgaaGreatDoor
open Go.RowKit M

/-- The bytes of a draw, in old memory. -/
structure CodeIn (w : World) (B : Nat) (a : Option Addr) (len : Nat) (zs : List Int) : Prop where
  code : CodeAt w a len zs
  bB : 0 < len → ∀ b off, a = some ⟨b, off, none⟩ → b < B
  hlen : len ≤ 1048576
  hB : B ≤ w.heap.size

theorem CodeIn.below {w w' : World} {B : Nat} {a : Option Addr} {len : Nat} {zs : List Int} (h : CodeIn w B a len zs) (hb : Below B w w') : CodeIn w' B a len zs := by
  refine ⟨⟨h.code.le, h.code.bd, fun h0 => ?_⟩, h.bB, h.hlen, Nat.le_trans h.hB hb.size⟩
  obtain ⟨b, off, rfl, hc⟩ := h.code.at0 h0
  refine ⟨b, off, rfl, fun j hj => ?_⟩
  exact (hb.cell (p := ⟨b, off + j, none⟩) (h.bB h0 b off rfl)).trans (hc j hj)

/-- A new cursor over them. -/
theorem newDC {w : World} {B : Nat} {a : Option Addr} {len : Nat} {zs : List Int} (h : CodeIn w B a len zs) (cap : Nat) :
    Calls Tryz.prog 38 #[.slice a len cap] w fun e w' => e = .returned (.pointer (some ⟨w.heap.size, 0, none⟩)) ∧ DC w' w.heap.size a len cap zs (newS zs len) ∧ Below w.heap.size w w' := by
  refine (l1New_any a len cap zs w h.code h.hlen).mono ?_
  rintro e w1 ⟨rfl, hc, hb, hs⟩
  have h1 := h.below (hb.mono h.hB)
  exact ⟨rfl, ⟨hc, h1.code, fun h0 b off e => Nat.lt_of_lt_of_le (h.bB h0 b off e) h.hB, h.hlen, by omega⟩, hb⟩

theorem dc_below {w w1 w2 : World} (hb : Below w.heap.size w w1) (hg : w1.grownBy w2 (some w.heap.size)) : Below w.heap.size w w2 :=
  hb.trans (grown_below hg (Nat.le_refl _) hb.size)

theorem getD_mem {α : Type} (l : List α) (i : Nat) (d : α) (p : α → Prop) (h : ∀ x ∈ l, p x) (hd : p d) : p (l.getD i d) := by
  rw [List.getD_eq_getElem?_getD]
  cases e : l[i]? with
  | none => exact hd
  | some x => exact h x (List.mem_of_getElem? e)

theorem textV_le (zs : List Int) (len : Nat) (c : St) : (textV zs len c).size ≤ 100 :=
  getD_mem textL _ _ (fun s => s.size ≤ 100) (by decide) (by decide)
end Go.Proofs.YtanebchmeaomgaaGreatDoor
namespace Go.Proofs.YtanebchmeaomgaaGreatDoor
open Go.RowKit M
set_option linter.unusedVariables false

/-- A cursor in block N, wherever it stands. -/
def DX (w : World) (N : Nat) (a : Option Addr) (len cap : Nat) (zs : List Int) : Prop := ∃ c, DC w N a len cap zs c

theorem DX.alloc {w : World} {N : Nat} {a : Option Addr} {len cap : Nat} {zs : List Int} (h : DX w N a len cap zs) (o : Obj) : DX (w.alloc o) N a len cap zs := by
  obtain ⟨c, h⟩ := h; exact ⟨c, h.alloc o⟩

theorem l1BelowX {w : World} {N : Nat} {a : Option Addr} {len cap : Nat} {zs : List Int} (h : DX w N a len cap zs) (n : Int) (hn : 0 < n) (hn2 : n ≤ 1000000) :
    Calls Tryz.prog 46 #[.pointer (some ⟨N, 0, none⟩), .int .i64 n] w fun e w' => (∃ k : Nat, e = .returned (.int .i64 k) ∧ (k : Int) < n) ∧ DX w' N a len cap zs ∧ w.grownBy w' (some N) := by
  obtain ⟨c, h⟩ := h
  refine (l1Below_any N a len cap zs c n w h.cur h.code h.bN h.hlen hn hn2).mono ?_
  rintro e w1 ⟨rfl, hc1, hg1⟩
  have hb := belowV_bd zs len c n hn
  exact ⟨⟨(belowV zs len c n).toNat, by rw [Int.toNat_of_nonneg hb.1], by rw [Int.toNat_of_nonneg hb.1]; exact hb.2⟩, ⟨_, h.grown hg1 hc1⟩, hg1⟩

/-- The cursor stands where another row of the call's own has grown. -/
theorem DX.other {w w' : World} {N : Nat} {a : Option Addr} {len cap : Nat} {zs : List Int} (h : DX w N a len cap zs) (hs : w.heap.size ≤ w'.heap.size) (hk : ∀ k, k ≤ N → w'.heap[k]? = w.heap[k]?) : DX w' N a len cap zs := by
  obtain ⟨c, h⟩ := h
  have hc : ∀ p : Addr, p.block ≤ N → w'.cell? p = w.cell? p := fun p hp => World.cell?_of_block (w := w) (hk p.block hp)
  have hf : ∀ p : Addr, p.block ≤ N → w'.frozen? p = w.frozen? p := fun p hp => World.frozen?_of_block (w := w) (hk p.block hp)
  refine ⟨c, ⟨⟨?_, ?_, ?_, ?_, ?_⟩, ?_, h.bN, h.hlen, Nat.lt_of_lt_of_le h.lt hs⟩⟩
  · rw [hc _ (Nat.le_refl _)]; exact h.cur.c0
  · rw [hc _ (Nat.le_refl _)]; exact h.cur.c1
  · rw [hc _ (Nat.le_refl _)]; exact h.cur.c2
  · rw [hf _ (Nat.le_refl _)]; exact h.cur.f1
  · rw [hf _ (Nat.le_refl _)]; exact h.cur.f2
  · refine ⟨h.code.le, h.code.bd, fun h0 => ?_⟩
    obtain ⟨b, off, e, hcc⟩ := h.code.at0 h0
    have hb := h.bN h0 b off e
    exact ⟨b, off, e, fun j hj => by rw [hc ⟨b, off + j, none⟩ (by show b ≤ N; omega)]; exact hcc j hj⟩

theorem grown_past {w w1 w2 : World} {r : Option Nat} (h : w.grownBy w1 r) (hb : Below w.heap.size w1 w2) : w.grownBy w2 r :=
  ⟨hb.os.trans h.os, hb.tape.trans h.tape, hb.output.trans h.output, Nat.le_trans h.size hb.size, fun k hk hne => (hb.block k hk).trans (h.block k hk hne)⟩

theorem strNewX {w : World} {N : Nat} {a : Option Addr} {len cap : Nat} {zs : List Int} (h : DX w N a len cap zs) (ss : List ByteArray) (C : Array Value) (T : TypeId) (n M : Nat) (hM : M = w.heap.size) (hC : C = (ss.map Value.string).toArray) (hn : ss.length = n) (h0 : 0 < n) (h1 : n ≤ 256) (hz : ∀ s ∈ ss, s.size ≤ 20) :
    Calls Tryz.prog 63 #[.pointer (some ⟨N, 0, none⟩), .slice (some ⟨M, 0, none⟩) n n] (w.alloc (.cells C T)) fun e w' => (∃ s : ByteArray, e = .returned (.string s) ∧ s.size ≤ 20) ∧ DX w' N a len cap zs ∧ w.grownBy w' (some N) := by
  obtain ⟨c, h⟩ := h
  refine (strNew h ss C T n M hM hC hn h0 h1).mono ?_
  rintro e w1 ⟨rfl, hd, hg⟩
  exact ⟨⟨_, rfl, getD_mem ss _ _ (fun s => s.size ≤ 20) hz (by decide)⟩, ⟨_, hd⟩, hg⟩

theorem DX.lt {w : World} {N : Nat} {a : Option Addr} {len cap : Nat} {zs : List Int} (h : DX w N a len cap zs) : N < w.heap.size := by obtain ⟨c, h⟩ := h; exact h.lt

theorem newDX {w : World} {B : Nat} {a : Option Addr} {len : Nat} {zs : List Int} (h : CodeIn w B a len zs) (cap : Nat) :
    Calls Tryz.prog 38 #[.slice a len cap] w fun e w' => e = .returned (.pointer (some ⟨w.heap.size, 0, none⟩)) ∧ DX w' w.heap.size a len cap zs ∧ Below w.heap.size w w' := by
  refine (newDC h cap).mono ?_
  rintro e w1 ⟨rfl, hd, hb⟩
  exact ⟨rfl, ⟨_, hd⟩, hb⟩
end Go.Proofs.YtanebchmeaomgaaGreatDoor
namespace Go.Proofs.YtanebchmeaomgaaGreatDoor

open Go.RowKit
theorem hide {p : Prop} (h : p) : Hid p := h
end Go.Proofs.YtanebchmeaomgaaGreatDoor
namespace Go.Proofs.YtanebchmeaomgaaGreatDoor.M

/-- Whether a byte is of a kind, as the document has it. -/
def isB (c k : Int) : Bool :=
  if k = 0 then decide (32 ≤ c) && decide (c ≤ 126)
  else if k = 1 then (c == 32) || (c == 9)
  else if k = 2 then decide (97 ≤ c) && decide (c ≤ 122)
  else if k = 3 then decide (65 ≤ c) && decide (c ≤ 90)
  else if k = 4 then decide (48 ≤ c) && decide (c ≤ 57)
  else if k = 5 then decide (97 ≤ c) && decide (c ≤ 102)
  else if k = 6 then decide (65 ≤ c) && decide (c ≤ 70)
  else if k = 7 then c == 45
  else false

def anyB (c : Int) (ks : List Int) : Bool := ks.any (isB c)
def allB (l : List UInt8) (ks : List Int) : Bool := l.all fun c => anyB (c.toNat : Int) ks

theorem take_snoc (s : ByteArray) (k : Nat) (h : k < s.size) : s.data.toList.take (k + 1) = s.data.toList.take k ++ [s[k]] := by
  rw [List.take_succ_eq_append_getElem (by simpa using h)]; rfl

theorem take_all (s : ByteArray) (k : Nat) (h : ¬ k < s.size) : s.data.toList.take k = s.data.toList := by
  rw [List.take_of_length_le]
  have : s.data.toList.length = s.size := Array.length_toList
  omega

theorem anyB_snoc (c : Int) (ks : List Int) (k : Nat) (h : k < ks.length) (h0 : anyB c (ks.take k) = false) (h1 : isB c ks[k] = false) : anyB c (ks.take (k + 1)) = false := by
  unfold anyB at *
  rw [List.take_succ_eq_append_getElem h, List.any_append, h0]
  simp [h1]

theorem anyB_of (c : Int) (ks : List Int) (k : Nat) (h : k < ks.length) (h1 : isB c ks[k] = true) : anyB c ks = true := by
  unfold anyB
  rw [List.any_eq_true]
  exact ⟨_, List.getElem_mem h, h1⟩

theorem allB_snoc (s : ByteArray) (ks : List Int) (k : Nat) (h : k < s.size) (h0 : allB (s.data.toList.take k) ks = true) (h2 : (!anyB (s[k].toNat : Int) ks) = false) : allB (s.data.toList.take (k + 1)) ks = true := by
  have h1 : anyB (s[k].toNat : Int) ks = true := by simpa using h2
  rw [take_snoc s k h]
  unfold allB at *
  rw [List.all_append, h0]
  simp [h1]

theorem allB_not (s : ByteArray) (ks : List Int) (k : Nat) (h : k < s.size) (h2 : (!anyB (s[k].toNat : Int) ks) = true) : allB s.data.toList ks = false := by
  have h1 : anyB (s[k].toNat : Int) ks = false := by simpa using h2
  have hm : s[k] ∈ s.data.toList := by
    have e : s.data.toList.length = s.size := Array.length_toList
    have h' : k < s.data.toList.length := by omega
    exact List.getElem_mem h'
  unfold allB
  rw [List.all_eq_false]
  exact ⟨_, hm, by simp [h1]⟩

/-- Whether a number lies between two. -/
def inB (x a b : Int) : Bool := decide (a ≤ x) && decide (x ≤ b)
theorem inB_plain (c : Int) : inB c 32 126 = anyB c [0] := by simp [inB, anyB, isB]
theorem inB_small (c : Int) : inB c 97 122 = isB c 2 := by simp [inB, isB]
theorem inB_large (c : Int) : inB c 65 90 = isB c 3 := by simp [inB, isB]
theorem inB_digit (c : Int) : inB c 48 57 = isB c 4 := by simp [inB, isB]
theorem inB_hexs (c : Int) : inB c 97 102 = isB c 5 := by simp [inB, isB]
theorem inB_hexl (c : Int) : inB c 65 70 = isB c 6 := by simp [inB, isB]
theorem anyB_one (c k : Int) : anyB c [k] = isB c k := by simp [anyB]

theorem set_last (pre t : List UInt8) (n : Nat) (h : pre.length = n + 1) (c : UInt8) : ∃ q : List UInt8, q.length = n ∧ (pre ++ t).set n c = q ++ c :: t := by
  refine ⟨pre.take n, by rw [List.length_take]; omega, ?_⟩
  have e : pre = pre.take n ++ [pre[n]] := by
    conv => lhs; rw [← List.take_append_drop n pre]
    rw [List.drop_eq_getElem_cons (by omega), List.drop_of_length_le (by omega)]
  have e2 : pre ++ t = pre.take n ++ (pre[n] :: t) := by
    conv => lhs; rw [e]
    rw [List.append_assoc]; rfl
  have l2 : (pre.take n).length = n := by rw [List.length_take]; omega
  rw [e2, List.set_append_right _ _ (by omega), l2, Nat.sub_self, List.set_cons_zero]

/-- A large letter as a small one. -/
def lowB (c : UInt8) : UInt8 := if isB (c.toNat : Int) 3 then c + 32 else c
def lowL (l : List UInt8) : List UInt8 := l.map lowB

theorem lowB_yes (c : UInt8) (h : isB (c.toNat : Int) 3 = true) : (lowB c).toNat = c.toNat + 32 := by
  have h' : 65 ≤ c.toNat ∧ c.toNat ≤ 90 := by simp [isB] at h; omega
  unfold lowB
  rw [if_pos h, UInt8.toNat_add]
  have : (32 : UInt8).toNat = 32 := rfl
  omega

theorem lowB_no (c : UInt8) (h : isB (c.toNat : Int) 3 = false) : lowB c = c := by
  unfold lowB
  rw [if_neg (by simp [h])]

theorem isB3 {c : Int} (h : isB c 3 = true) : 65 ≤ c ∧ c ≤ 90 := by simp [isB] at h; omega

theorem lowL_snoc (s : ByteArray) (k : Nat) (h : k < s.size) : lowL (s.data.toList.take (k + 1)) = lowL (s.data.toList.take k) ++ [lowB s[k]] := by
  rw [take_snoc s k h]; simp [lowL]

/-- The first k made small, the rest as it was. -/
def mixL (l : List UInt8) (k : Nat) : List UInt8 := lowL (l.take k) ++ l.drop k
theorem mixL_length (l : List UInt8) (k : Nat) : (mixL l k).length = l.length := by
  simp only [mixL, lowL, List.length_append, List.length_map, List.length_take, List.length_drop]; omega
theorem mixL_zero (l : List UInt8) : mixL l 0 = l := by simp [mixL, lowL]
theorem mixL_all (l : List UInt8) (k : Nat) (h : l.length ≤ k) : mixL l k = lowL l := by
  simp [mixL, List.take_of_length_le h, List.drop_of_length_le h]
theorem mixL_get (l : List UInt8) (k : Nat) (h : k < l.length) (h' : k < (mixL l k).length) : (mixL l k)[k] = l[k] := by
  have e : (lowL (l.take k)).length = k := by simp only [lowL, List.length_map, List.length_take]; omega
  simp only [mixL]
  rw [List.getElem_append_right (by omega)]
  simp only [e, Nat.sub_self, List.getElem_drop, Nat.add_zero]
theorem mixL_succ (l : List UInt8) (k : Nat) (h : k < l.length) : mixL l (k + 1) = (mixL l k).set k (lowB l[k]) := by
  have e : (lowL (l.take k)).length = k := by simp only [lowL, List.length_map, List.length_take]; omega
  simp only [mixL]
  rw [List.set_append_right _ _ (by omega), e, Nat.sub_self, List.drop_eq_getElem_cons h, List.set_cons_zero, List.take_succ_eq_append_getElem h]
  simp only [lowL, List.map_append, List.map_cons, List.map_nil, List.append_assoc, List.singleton_append]

end Go.Proofs.YtanebchmeaomgaaGreatDoor.M
namespace Go.Proofs.YtanebchmeaomgaaGreatDoor.M

def bl (c : UInt8) : Bool := isB (c.toNat : Int) 1
def trimL (l : List UInt8) : List UInt8 := ((l.dropWhile bl).reverse.dropWhile bl).reverse

theorem trimL_front (c : UInt8) (r : List UInt8) (h : bl c = true) : trimL (c :: r) = trimL r := by
  simp [trimL, h]

theorem dropWhile_append_single (p : UInt8 → Bool) (l : List UInt8) (c : UInt8) (h : p c = true) : (l ++ [c]).dropWhile p = if l.dropWhile p = [] then [] else l.dropWhile p ++ [c] := by
  induction l with
  | nil => simp [h]
  | cons a r ih =>
    simp only [List.cons_append, List.dropWhile_cons]
    cases p a <;> simp [ih]

theorem trimL_back (l : List UInt8) (c : UInt8) (h : bl c = true) : trimL (l ++ [c]) = trimL l := by
  unfold trimL
  rw [dropWhile_append_single bl l c h]
  by_cases e : l.dropWhile bl = []
  · simp [e]
  · simp [e, h]

theorem dropWhile_head (p : UInt8 → Bool) (c : UInt8) (r : List UInt8) (h : p c = false) : (c :: r).dropWhile p = c :: r := by
  simp [h]

theorem trimL_nil : trimL [] = [] := rfl

theorem trimL_done (l : List UInt8) (h0 : 0 < l.length) (hf : bl l[0] = false) (hb : bl (l[l.length - 1]) = false) : trimL l = l := by
  have e1 : l.dropWhile bl = l := by
    cases l with
    | nil => simp at h0
    | cons c r => exact dropWhile_head bl c r hf
  have e2 : l.reverse.dropWhile bl = l.reverse := by
    have hne : l ≠ [] := by intro e; simp [e] at h0
    have hl : l.getLast hne = l[l.length - 1] := List.getLast_eq_getElem hne
    have e3 : l.reverse = l.getLast hne :: l.dropLast.reverse := by
      conv => lhs; rw [← List.dropLast_concat_getLast hne]
      simp
    rw [e3]
    exact dropWhile_head bl _ _ (by rw [hl]; exact hb)
  rw [trimL, e1, e2, List.reverse_reverse]

/-- A text cut: its bytes from a up to b. -/
def cut (s : ByteArray) (a b : Nat) : List UInt8 := (s.data.toList.take b).drop a

theorem cut_all (s : ByteArray) : cut s 0 s.size = s.data.toList := by
  have e : s.data.toList.length = s.size := Array.length_toList
  unfold cut
  rw [List.drop_zero, List.take_of_length_le (by omega)]

theorem cut_length (s : ByteArray) (a b : Nat) (hb : b ≤ s.size) : (cut s a b).length = b - a := by
  have e : s.data.toList.length = s.size := Array.length_toList
  unfold cut
  rw [List.length_drop, List.length_take]
  omega

theorem cut_get (s : ByteArray) (a b i : Nat) (hb : b ≤ s.size) (hi : a + i < b) : (cut s a b)[i]'(by rw [cut_length s a b hb]; omega) = s[a + i] := by
  simp only [cut, List.getElem_drop, List.getElem_take]
  rfl

theorem cut_front (s : ByteArray) (a b : Nat) (hb : b ≤ s.size) (h : a < b) : cut s a b = s[a] :: cut s (a + 1) b := by
  have e : s.data.toList.length = s.size := Array.length_toList
  unfold cut
  rw [List.drop_eq_getElem_cons (by rw [List.length_take]; omega), List.getElem_take]
  rfl

theorem cut_back (s : ByteArray) (a b : Nat) (hb : b ≤ s.size) (h : a < b) : cut s a b = cut s a (b - 1) ++ [s[b - 1]] := by
  have e : s.data.toList.length = s.size := Array.length_toList
  obtain ⟨c, rfl⟩ : ∃ c, b = c + 1 := ⟨b - 1, by omega⟩
  simp only [Nat.add_sub_cancel]
  unfold cut
  rw [List.take_succ_eq_append_getElem (by omega), List.drop_append_of_le_length (by rw [List.length_take]; omega)]
  rfl

theorem cut_empty (s : ByteArray) (a b : Nat) (h : b ≤ a) : cut s a b = [] := by
  unfold cut
  rw [List.drop_eq_nil_iff, List.length_take]
  omega

theorem cut_trim_front (s : ByteArray) (a b : Nat) (hb : b ≤ s.size) (h : a < b) (hc : bl s[a] = true) : trimL (cut s a b) = trimL (cut s (a + 1) b) := by
  rw [cut_front s a b hb h, trimL_front _ _ hc]

theorem cut_trim_back (s : ByteArray) (a b : Nat) (hb : b ≤ s.size) (h : a < b) (hc : bl s[b - 1] = true) : trimL (cut s a b) = trimL (cut s a (b - 1)) := by
  rw [cut_back s a b hb h, trimL_back _ _ hc]

theorem cut_trim_done (s : ByteArray) (a b : Nat) (hb : b ≤ s.size) (h : a < b) (hf : bl s[a] = false) (hl : bl s[b - 1] = false) : trimL (cut s a b) = cut s a b := by
  have e := cut_length s a b hb
  apply trimL_done
  · rw [cut_get s a b 0 hb (by omega)]; exact hf
  · have := cut_get s a b (b - a - 1) hb (by omega)
    simp only [e]
    rw [this]
    have e2 : a + (b - a - 1) = b - 1 := by omega
    simp only [e2]; exact hl

theorem extract_cut (s : ByteArray) (a b : Nat) : (s.extract a b).data.toList = cut s a b := by
  unfold cut
  rw [ByteArray.data_extract, Array.toList_extract]
  simp [List.extract_eq_take_drop, List.drop_take]

theorem cut_cut (s : ByteArray) (a b c d : Nat) (hb : b ≤ s.size) (hd : a + d ≤ b) : cut (s.extract a b) c d = cut s (a + c) (a + d) := by
  have e : s.data.toList.length = s.size := Array.length_toList
  unfold cut
  rw [extract_cut]
  unfold cut
  apply List.ext_getElem
  · simp only [List.length_drop, List.length_take]; omega
  · intro i h1 h2
    simp only [List.getElem_drop, List.getElem_take, Nat.add_assoc]

theorem anyB_bl (c : UInt8) : anyB (c.toNat : Int) [1] = bl c := by simp [anyB, bl]

theorem size_extract (s : ByteArray) (a b : Nat) (hb : b ≤ s.size) : (s.extract a b).size = b - a := by
  have e : (s.extract a b).data.toList.length = (s.extract a b).size := Array.length_toList
  rw [← e, extract_cut, cut_length s a b hb]

theorem step_front (t : ByteArray) (l : List UInt8) (h0 : 0 < t.size) (hb : bl t[0] = true) (H : trimL t.data.toList = l) : trimL (t.extract 1 t.size).data.toList = l := by
  rw [extract_cut, ← cut_trim_front t 0 t.size (Nat.le_refl _) h0 hb, cut_all, H]

theorem step_back (t : ByteArray) (l : List UInt8) (h0 : 0 < t.size) (hb : bl t[t.size - 1] = true) (H : trimL t.data.toList = l) : trimL (t.extract 0 (t.size - 1)).data.toList = l := by
  rw [extract_cut, ← cut_trim_back t 0 t.size (Nat.le_refl _) h0 hb, cut_all, H]

theorem step_back_head (t : ByteArray) (h0 : 0 < t.size) (hf : bl t[0] = false) (h : 0 < (t.extract 0 (t.size - 1)).size) : bl (t.extract 0 (t.size - 1))[0] = false := by
  have e : (t.extract 0 (t.size - 1))[0] = t[0] := by
    rw [ByteArray.getElem_extract]
  rw [e]; exact hf

theorem step_done (t : ByteArray) (l : List UInt8) (h0 : 0 < t.size) (hf : bl t[0] = false) (hb : bl t[t.size - 1] = false) (H : trimL t.data.toList = l) : t.data.toList = l := by
  rw [← H, ← cut_all t]
  exact (cut_trim_done t 0 t.size (Nat.le_refl _) h0 hf hb).symm

theorem step_none (t : ByteArray) (l : List UInt8) (h0 : ¬ 0 < t.size) (H : trimL t.data.toList = l) : t.data.toList = l := by
  have e : t.data.toList = [] := by rw [← cut_all t]; exact cut_empty _ _ _ (by omega)
  rw [← H, e]; rfl

end Go.Proofs.YtanebchmeaomgaaGreatDoor.M
namespace Go.Proofs.YtanebchmeaomgaaGreatDoor.M

/-- A small name: a small letter, then small letters, digits and hyphens, at most 20 in all. -/
def smB : List UInt8 → Bool
  | [] => false
  | c :: r => decide ((c :: r).length ≤ 20) && isB (c.toNat : Int) 2 && allB (c :: r) [2, 4, 7]

/-- What the specification asks of the byte at place i. -/
def okAt (i : Nat) (c : Int) : Bool := isB c 2 || (i != 0 && (isB c 4 || c == 45))

theorem anyB_3 (c : Int) : anyB c [2, 4, 7] = (isB c 2 || (isB c 4 || c == 45)) := by
  simp [anyB, isB]

theorem okAt_any {i : Nat} {c : Int} (h : okAt i c = true) : anyB c [2, 4, 7] = true := by
  rw [anyB_3]
  unfold okAt at h
  cases h1 : isB c 2 <;> simp_all

theorem ok1 {k : Nat} {c : Int} (h : isB c 2 = true) : okAt k c = true := by simp [okAt, h]
theorem no2 {k : Nat} {c : Int} (h : ¬ isB c 2 = true) (h1 : k = 0) : okAt k c = false := by simp [okAt, h1]; simpa using h
theorem ok3 {k : Nat} {c : Int} (h1 : ¬ k = 0) (h2 : isB c 4 = true) : okAt k c = true := by simp [okAt, h1, h2]
theorem no4 {k : Nat} {c : Int} (h : ¬ isB c 2 = true) (h1 : ¬ k = 0) (h2 : ¬ isB c 4 = true) (h3 : ((k : Int) == 0) = true ∨ (c != 45) = true) : okAt k c = false := by
  rcases h3 with h3 | h3
  · simp at h3; exact absurd h3 h1
  · simp at h h2 h3; simp [okAt, h, h2, h3]
theorem ok5 {k : Nat} {c : Int} (h1 : ¬ k = 0) (h3 : ((k : Int) == 0) = false ∧ (c != 45) = false) : okAt k c = true := by
  obtain ⟨_, h3⟩ := h3
  simp at h3
  simp [okAt, h1, h3]

theorem smB_notL (l : List UInt8) (k : Nat) (h' : k < l.length) (h1 : okAt k (l[k].toNat : Int) = false) : smB l = false := by
  match l, k, h', h1 with
  | c :: r, 0, h', h1 =>
    have h2 : okAt 0 (c.toNat : Int) = false := h1
    simp [okAt] at h2
    simp [smB, h2]
  | c :: r, k + 1, h', h1 =>
    simp only [List.getElem_cons_succ] at h1
    have h2 : anyB (r[k]'(by simpa using h')).toNat [2, 4, 7] = false := by
      rw [anyB_3]; simpa [okAt] using h1
    have h3 : allB (c :: r) [2, 4, 7] = false := by
      unfold allB
      rw [List.all_eq_false]
      exact ⟨_, List.mem_cons_of_mem _ (List.getElem_mem (by simpa using h')), by simp [h2]⟩
    simp [smB, h3]

theorem smB_not (s : ByteArray) (k : Nat) (h : k < s.size) (h1 : okAt k (s[k].toNat : Int) = false) : smB s.data.toList = false := by
  have e : s.data.toList.length = s.size := Array.length_toList
  exact smB_notL s.data.toList k (by omega) h1

theorem smB_allL (l : List UInt8) (h2 : ∀ i (hi : i < l.length), okAt i (l[i].toNat : Int) = true) : smB l = inB (l.length : Int) 1 20 := by
  match l, h2 with
  | [], _ => simp [smB, inB]
  | c :: r, h2 =>
    have h0 : okAt 0 (c.toNat : Int) = true := h2 0 (by simp)
    have h3 : isB (c.toNat : Int) 2 = true := by simpa [okAt] using h0
    have h4 : allB (c :: r) [2, 4, 7] = true := by
      unfold allB
      rw [List.all_eq_true]
      intro x hx
      obtain ⟨i, hi, rfl⟩ := List.mem_iff_getElem.1 hx
      exact okAt_any (h2 i hi)
    simp only [smB, h3, h4, inB]
    rw [Bool.and_true, Bool.and_true, Bool.eq_iff_iff]
    simp
    omega

theorem smB_all (s : ByteArray) (h : ∀ i (hi : i < s.size), okAt i (s[i].toNat : Int) = true) : smB s.data.toList = inB (s.size : Int) 1 20 := by
  have e : s.data.toList.length = s.size := Array.length_toList
  rw [← e]
  exact smB_allL s.data.toList fun i hi => h i (by omega)

theorem smB_implL (l : List UInt8) (h0 : 0 < l.length) (h1 : l.length ≤ 20) : smB l = (isB (l[0].toNat : Int) 2 && allB l [2, 4, 7]) := by
  match l, h0, h1 with
  | c :: r, h0, h1 =>
    have h1' : r.length + 1 ≤ 20 := by simpa using h1
    show smB (c :: r) = (isB (c.toNat : Int) 2 && allB (c :: r) [2, 4, 7])
    simp [smB, h1']

/-- The program's own way to it. -/
theorem smB_impl (s : ByteArray) (h0 : 0 < s.size) (h1 : s.size ≤ 20) : smB s.data.toList = (isB ((s[0]).toNat : Int) 2 && allB s.data.toList [2, 4, 7]) := by
  have e : s.data.toList.length = s.size := Array.length_toList
  exact smB_implL s.data.toList (by omega) (by omega)

theorem smB_longL (l : List UInt8) (h : l.length < 1 ∨ 20 < l.length) : smB l = false := by
  match l, h with
  | [], _ => rfl
  | c :: r, h =>
    have h' : ¬ r.length + 1 ≤ 20 := by simp at h; omega
    simp [smB, h']

theorem smB_long (s : ByteArray) (h : s.size < 1 ∨ 20 < s.size) : smB s.data.toList = false := by
  have e : s.data.toList.length = s.size := Array.length_toList
  exact smB_longL _ (by omega)

end Go.Proofs.YtanebchmeaomgaaGreatDoor.M
namespace Go.Proofs.YtanebchmeaomgaaGreatDoor.M

/-- A head: its name, its value. -/
abbrev Hd := ByteArray × ByteArray
/-- A request. -/
structure Rq where
  m : ByteArray
  p : ByteArray
  hs : List Hd
  b : ByteArray
deriving DecidableEq

def lenName : ByteArray := ⟨#[99, 111, 110, 116, 101, 110, 116, 45, 108, 101, 110, 103, 116, 104]⟩
def codName : ByteArray := ⟨#[116, 114, 97, 110, 115, 102, 101, 114, 45, 101, 110, 99, 111, 100, 105, 110, 103]⟩

def methB (s : ByteArray) : Bool := allB s.data.toList [3] && inB s.size 1 9
def tgtB (l : List UInt8) : Bool := l.all fun c => inB (c.toNat : Int) 33 126
def targB (s : ByteArray) : Bool := tgtB s.data.toList && inB s.size 1 80
def valB (s : ByteArray) : Bool := decide (s.size ≤ 60) && (allB s.data.toList [0] && decide (trimL s.data.toList = s.data.toList))
def hdB (h : Hd) : Bool := smB h.1.data.toList && valB h.2
def hdFree (h : Hd) : Bool := hdB h && (!decide (h.1 = lenName) && !decide (h.1 = codName))
def hdsB (hs : List Hd) : Bool := hs.all hdFree && decide (hs.length ≤ 8)
def reqB (r : Rq) : Bool := methB r.m && (targB r.p && (hdsB r.hs && decide (r.b.size ≤ 200)))

theorem tgtB_snoc (s : ByteArray) (k : Nat) (h : k < s.size) (h0 : tgtB (s.data.toList.take k) = true) (h1 : inB (s[k].toNat : Int) 33 126 = true) : tgtB (s.data.toList.take (k + 1)) = true := by
  rw [take_snoc s k h]
  unfold tgtB at *
  rw [List.all_append, h0]
  simp [h1]
theorem tgtB_not (s : ByteArray) (k : Nat) (h : k < s.size) (h1 : inB (s[k].toNat : Int) 33 126 = false) : tgtB s.data.toList = false := by
  have hm : s[k] ∈ s.data.toList := by
    have e : s.data.toList.length = s.size := Array.length_toList
    have h' : k < s.data.toList.length := by omega
    exact List.getElem_mem h'
  unfold tgtB
  rw [List.all_eq_false]
  exact ⟨_, hm, by simp [h1]⟩

theorem indexByte_nonneg (l : List UInt8) (c : UInt8) : decide (0 ≤ Lib.indexByte l c) = l.contains c := by
  induction l with
  | nil => rfl
  | cons b l ih =>
    have hge := Lib.indexByte_ge l c
    have hc : (b == c) = (c == b) := by rw [Bool.beq_comm]
    simp only [List.contains_cons]
    rw [← ih]
    have e : Lib.indexByte (b :: l) c = if b == c then 0 else if Lib.indexByte l c == -1 then -1 else Lib.indexByte l c + 1 := rfl
    rw [e, hc]
    cases hb : (c == b)
    · by_cases h1 : Lib.indexByte l c = -1
      · rw [h1]; rfl
      · have h2 : (Lib.indexByte l c == -1) = false := by rw [beq_eq_false_iff_ne]; exact h1
        rw [h2, Bool.eq_iff_iff]
        simp only [Bool.false_eq_true, if_false, Bool.false_or, decide_eq_true_eq]
        omega
    · simp

/-- Plain without a blank: what a target is made of. -/
theorem tgt_plain (l : List UInt8) : (allB l [0] && !l.contains 32) = tgtB l := by
  induction l with
  | nil => rfl
  | cons c r ih =>
    have e1 : allB (c :: r) [0] = (anyB (c.toNat : Int) [0] && allB r [0]) := rfl
    have e2 : tgtB (c :: r) = (inB (c.toNat : Int) 33 126 && tgtB r) := rfl
    rw [e1, e2, ← ih, List.contains_cons]
    have h : (anyB (c.toNat : Int) [0] && !((32 : UInt8) == c)) = inB (c.toNat : Int) 33 126 := by
      by_cases hc : c = 32
      · subst hc; decide
      · have h32 : ¬ c.toNat = 32 := fun e => hc (UInt8.toNat_inj.1 (by rw [e]; rfl))
        have hb : ((32 : UInt8) == c) = false := by rw [beq_eq_false_iff_ne]; exact fun e => hc e.symm
        rw [hb]
        rw [Bool.eq_iff_iff]
        simp [anyB, isB, inB]
        omega
    rw [← h]
    cases anyB (c.toNat : Int) [0] <;> cases ((32 : UInt8) == c) <;> cases allB r [0] <;> simp

theorem hdsB_snoc (hs : List Hd) (k : Nat) (h : k < hs.length) (h0 : (hs.take k).all hdFree = true) (h1 : hdFree hs[k] = true) : (hs.take (k + 1)).all hdFree = true := by
  rw [List.take_succ_eq_append_getElem h, List.all_append, h0]
  simp [h1]
theorem hdsB_not (hs : List Hd) (k : Nat) (h : k < hs.length) (h1 : hdFree hs[k] = false) : hdsB hs = false := by
  have : hs.all hdFree = false := by
    rw [List.all_eq_false]
    exact ⟨_, List.getElem_mem h, by simp [h1]⟩
  simp [hdsB, this]
theorem hdsB_all (hs : List Hd) (k : Nat) (h : ¬ k < hs.length) (h0 : (hs.take k).all hdFree = true) : hdsB hs = decide (hs.length ≤ 8) := by
  rw [List.take_of_length_le (by omega)] at h0
  simp [hdsB, h0]
theorem hdsB_long (hs : List Hd) (h : ¬ hs.length ≤ 8) : hdsB hs = false := by simp [hdsB, h]

/-- The first of this name. -/
def hdOf : List Hd → ByteArray → ByteArray × Bool
  | [], _ => (ByteArray.empty, false)
  | h :: r, n => if h.1 = n then (h.2, true) else hdOf r n

theorem hdOf_at (hs : List Hd) (k : Nat) (hk : k < hs.length) (n : ByteArray) (h0 : hdOf hs n = hdOf (hs.drop k) n) (h : hs[k].1 = n) : hdOf hs n = (hs[k].2, true) := by
  rw [h0, List.drop_eq_getElem_cons hk, hdOf, if_pos h]
theorem hdOf_next (hs : List Hd) (k : Nat) (hk : k < hs.length) (n : ByteArray) (h0 : hdOf hs n = hdOf (hs.drop k) n) (h : ¬ hs[k].1 = n) : hdOf hs n = hdOf (hs.drop (k + 1)) n := by
  rw [h0, List.drop_eq_getElem_cons hk, hdOf, if_neg h]
theorem hdOf_end (hs : List Hd) (k : Nat) (hk : ¬ k < hs.length) (n : ByteArray) (h0 : hdOf hs n = hdOf (hs.drop k) n) : hdOf hs n = (ByteArray.empty, false) := by
  rw [h0, List.drop_of_length_le (by omega), hdOf]

/-- How much a head has, and all of them. -/
def szH (h : Hd) : Nat := h.1.size + h.2.size
def sumH (hs : List Hd) : Nat := (hs.map szH).sum
theorem sumH_snoc (hs : List Hd) (k : Nat) (hk : k < hs.length) : sumH (hs.take (k + 1)) = sumH (hs.take k) + szH hs[k] := by
  unfold sumH
  rw [List.take_succ_eq_append_getElem hk, List.map_append, List.sum_append]
  simp only [List.map_cons, List.map_nil, List.sum_cons, List.sum_nil, Nat.add_zero]
theorem sumH_mem (hs : List Hd) (h : Hd) (hm : h ∈ hs) : h.1.size ≤ sumH hs ∧ h.2.size ≤ sumH hs := by
  induction hs with
  | nil => cases hm
  | cons x l ih =>
    simp only [sumH, List.map_cons, List.sum_cons, szH] at *
    rcases List.mem_cons.1 hm with rfl | hm
    · omega
    · have := ih hm; omega

theorem take_sameH {ss tt : List Hd} (k : Nat) (h1 : k < ss.length) (h2 : k < tt.length) (h0 : ss.take k = tt.take k) (h : ss[k] = tt[k]) : ss.take (k + 1) = tt.take (k + 1) := by
  rw [List.take_succ_eq_append_getElem h1, List.take_succ_eq_append_getElem h2, h0, h]
def sameH (ss tt : List Hd) : Bool := decide (ss = tt)
theorem sameH_refl (ss : List Hd) : sameH ss ss = true := by simp [sameH]
theorem sameH_len {ss tt : List Hd} (h : ¬ ss.length = tt.length) : sameH ss tt = false := by
  simp only [sameH, decide_eq_false_iff_not]; intro e; exact h (by rw [e])
theorem sameH_not {ss tt : List Hd} (k : Nat) (h1 : k < ss.length) (h2 : k < tt.length) (h : ¬ ss[k] = tt[k]) : sameH ss tt = false := by
  simp only [sameH, decide_eq_false_iff_not]; intro e; subst e; exact h rfl
theorem sameH_all {ss tt : List Hd} (hl : ss.length = tt.length) (k : Nat) (hk : ¬ k < ss.length) (h : ss.take k = tt.take k) : sameH ss tt = true := by
  rw [List.take_of_length_le (by omega), List.take_of_length_le (by omega)] at h
  simp [sameH, h]
/-- Whether two requests are the same. -/
def sameR (a b : Rq) : Bool := decide (a.m = b.m) && (decide (a.p = b.p) && (sameH a.hs b.hs && decide (a.b = b.b)))
theorem sameR_iff (a b : Rq) : sameR a b = true ↔ a = b := by
  cases a; cases b
  simp [sameR, sameH]
theorem sameR_refl (a : Rq) : sameR a a = true := (sameR_iff a a).2 rfl
end Go.Proofs.YtanebchmeaomgaaGreatDoor.M
namespace Go.Proofs.YtanebchmeaomgaaGreatDoor
open Go.RowKit M


/-- The heads that a slice holds, in a block below B. -/
def Hds (w : World) (B : Nat) (a : Option Addr) (hs : List Hd) : Prop :=
  0 < hs.length → ∃ b o, a = some ⟨b, o, none⟩ ∧ b < B ∧ ∀ j (hj : j < hs.length), w.cell? ⟨b, o + j * 2, none⟩ = some (.string hs[j].1) ∧ w.cell? ⟨b, o + j * 2 + 1, none⟩ = some (.string hs[j].2)

theorem Hds.below {w w' : World} {B C : Nat} {a : Option Addr} {hs : List Hd} (h : Hds w B a hs) (hb : Below C w w') (hB : B ≤ C) : Hds w' B a hs := fun h0 => by
  obtain ⟨b, o, e, hbB, hc⟩ := h h0
  exact ⟨b, o, e, hbB, fun j hj => ⟨(hb.cell (p := ⟨b, o + j * 2, none⟩) (Nat.lt_of_lt_of_le hbB hB)).trans (hc j hj).1, (hb.cell (p := ⟨b, o + j * 2 + 1, none⟩) (Nat.lt_of_lt_of_le hbB hB)).trans (hc j hj).2⟩⟩
theorem Hds.mono {w : World} {B C : Nat} {a : Option Addr} {hs : List Hd} (h : Hds w B a hs) (hB : B ≤ C) : Hds w C a hs := fun h0 => by
  obtain ⟨b, o, e, hbB, hc⟩ := h h0
  exact ⟨b, o, e, Nat.lt_of_lt_of_le hbB hB, hc⟩

theorem Hds.store {w : World} {B g o : Nat} {hs : List Hd} (h : Hds w B (some ⟨g, o, none⟩) hs) (p : Addr) (v : Value) (hp : p.block ≠ g) : Hds (w.setCell p v) B (some ⟨g, o, none⟩) hs := fun h0 => by
  obtain ⟨b, o', e, hbB, hc⟩ := h h0
  cases e
  exact ⟨g, o, rfl, hbB, fun j hj => ⟨(World.cell?_setCell_other _ _ _ _ (fun e => hp (congrArg Addr.block e))).trans (hc j hj).1, (World.cell?_setCell_other _ _ _ _ (fun e => hp (congrArg Addr.block e))).trans (hc j hj).2⟩⟩

/-- All of them short enough. -/
def ShortH (hs : List Hd) : Prop := ∀ h ∈ hs, h.1.size ≤ maxLen ∧ h.2.size ≤ maxLen
theorem ShortH.at {hs : List Hd} (h : ShortH hs) (k : Nat) (hk : k < hs.length) : (hs[k]).1.size ≤ maxLen ∧ (hs[k]).2.size ≤ maxLen := h _ (List.getElem_mem hk)

/-- A request all of whose parts are short enough. -/
def ShortR (r : Rq) : Prop := r.m.size ≤ maxLen ∧ r.p.size ≤ maxLen ∧ r.b.size ≤ maxLen ∧ r.hs.length ≤ maxLen ∧ ShortH r.hs

/-- The value of a head, and of a request. -/
def hdV (h : Hd) : Value := .agg #[.string h.1, .string h.2]
def rqV (a : Option Addr) (n cap : Nat) (r : Rq) : Value := .agg #[.string r.m, .string r.p, .slice a n cap, .string r.b]

theorem strInj {a b : ByteArray} (h : a.toList = b.toList) : a = b := by
  rw [ByteArray.toList_eq, ByteArray.toList_eq] at h
  exact ByteArray.ext (Array.ext' h)

/-- What was there reads as it did, behind a call that only made memory. -/
theorem bcell {W w1 : World} (hb : Below W.heap.size W w1) : (∀ b o, b < W.heap.size → w1.cell? ⟨b, o, none⟩ = W.cell? ⟨b, o, none⟩) ∧ (∀ b o, b < W.heap.size → w1.frozen? ⟨b, o, none⟩ = W.frozen? ⟨b, o, none⟩) :=
  ⟨fun b o h => hb.cell (p := ⟨b, o, none⟩) h, fun b o h => hb.frozen (p := ⟨b, o, none⟩) h⟩
end Go.Proofs.YtanebchmeaomgaaGreatDoor
