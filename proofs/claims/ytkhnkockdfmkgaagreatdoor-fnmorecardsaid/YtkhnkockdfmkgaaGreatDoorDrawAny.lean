/-
  The numbers that a draw mixes: no program in sight but the model's own wraps and bits.
  The cursor over the bytes of a draw: what each call does to it.
  A new cursor; what is picked of a list.
  Texts that are drawn.
  The bytes of a draw, and a new cursor on them.
  A cursor, wherever it stands: what is drawn by it, and that all else stays.
  The draws of heads: whatever is drawn, they are few and short, in memory of their own.
  The draws of requests: whatever is drawn, they are short, in memory of their own.
  'append' of a head in a region that draws; lists of texts that were just built.
  A number that is picked of a list.
  What is known in the course of a draw of a request.
  The draws of requests, bent or not: whatever is drawn, it is small, in memory of its own.
-/
import Derived.Laws.BitsLemmas
import Derived.Laws.Wrap64
import Derived.WalkKit
import Derived.Test.YtkhnkockdfmkgaaGreatDoorRows
import Derived.WalkSpells
import Derived.WalkLawsBesides
import Derived.Deep.Light
import Derived.Deep.QuietTactic
import Derived.BigQuiet
import Derived.Test.YtkhnkockdfmkgaaGreatDoorAllOf
import Derived.Laws.IdiomStrings
import Derived.Deep.OwnRows
import Derived.Deep.RegionLaw
import Derived.Laws.BytesArg
namespace Go.Proofs.YtkhnkockdfmkgaaGreatDoor.M
open Go Go.RowKit

theorem i64_and255 (n : Int) : bits .and .i64 n 255 = n % 256 := by
  have h8 : (BitVec.ofInt 64 255).toNat = 2 ^ 8 - 1 := by decide
  have key : (BitVec.ofInt 64 n &&& BitVec.ofInt 64 255).toNat = (n % ((2 ^ 64 : Nat) : Int)).toNat % 2 ^ 8 := by
    rw [BitVec.toNat_and, BitVec.toNat_ofInt, h8, Nat.and_two_pow_sub_one_eq_mod]
  show IntKind.i64.wrap ((BitVec.ofInt 64 n &&& BitVec.ofInt 64 255).toNat : Nat) = n % 256
  rw [key, IntKind.wrap_i64]
  omega

theorem i64_and30 (n : Int) : bits .and .i64 n 1073741823 = n % 1073741824 := by
  have h30 : (BitVec.ofInt 64 1073741823).toNat = 2 ^ 30 - 1 := by decide
  have key : (BitVec.ofInt 64 n &&& BitVec.ofInt 64 1073741823).toNat = (n % ((2 ^ 64 : Nat) : Int)).toNat % 2 ^ 30 := by
    rw [BitVec.toNat_and, BitVec.toNat_ofInt, h30, Nat.and_two_pow_sub_one_eq_mod]
  show IntKind.i64.wrap ((BitVec.ofInt 64 n &&& BitVec.ofInt 64 1073741823).toNat : Nat) = n % 1073741824
  rw [key, IntKind.wrap_i64]
  omega

/-- The next number mixed. -/
def hNext (h : Int) : Int := wrap64 (wrap64 (h * 6364136223846793005) + 1442695040888963407)
/-- The byte that follows from it. -/
def xMix (h : Int) : Int := bits .xor .i64 (hNext h / 8589934592) (hNext h / 140737488355328) % 256
theorem xMix_bd (h : Int) : 0 ≤ xMix h ∧ xMix h ≤ 255 := by unfold xMix; omega

/-- What a draw's byte is, of the bytes zs (the first len of them), the place and the number mixed; and the place behind it. -/
def xByte (zs : List Int) (len : Nat) (i : Nat) (h : Int) : Int := if i < len then (xMix h + zs.getD i 0) % 256 else xMix h
def iNext (len i : Nat) : Nat := if i < len then i + 1 else i
theorem xByte_bd (zs : List Int) (len i : Nat) (h : Int) : 0 ≤ xByte zs len i h ∧ xByte zs len i h ≤ 255 := by
  have := xMix_bd h
  unfold xByte
  split <;> omega
theorem iNext_le {len i : Nat} (h : i ≤ len) : iNext len i ≤ len := by unfold iNext; split <;> omega

/-- The cursor's state: the place and the number mixed. -/
structure St where
  i : Nat
  h : Int

def next (len : Nat) (c : St) : St := ⟨iNext len c.i, hNext c.h⟩

/-- What l1Below draws (n above 0), and the state behind it. -/
def belowV (zs : List Int) (len : Nat) (c : St) (n : Int) : Int :=
  if n ≤ 256 then xByte zs len c.i c.h % n
  else (xByte zs len c.i c.h * 65536 + xByte zs len (next len c).i (next len c).h * 256 + xByte zs len (next len (next len c)).i (next len (next len c)).h) % n
def belowS (len : Nat) (c : St) (n : Int) : St := if n ≤ 256 then next len c else next len (next len (next len c))

theorem belowV_bd (zs : List Int) (len : Nat) (c : St) (n : Int) (hn : 0 < n) : 0 ≤ belowV zs len c n ∧ belowV zs len c n < n := by
  unfold belowV
  split
  · exact ⟨Int.emod_nonneg _ (by omega), Int.emod_lt_of_pos _ hn⟩
  · exact ⟨Int.emod_nonneg _ (by omega), Int.emod_lt_of_pos _ hn⟩

theorem next_le {len : Nat} {c : St} (h : c.i ≤ len) : (next len c).i ≤ len := iNext_le h
theorem belowS_le {len : Nat} {c : St} {n : Int} (h : c.i ≤ len) : (belowS len c n).i ≤ len := by
  unfold belowS
  split
  · exact next_le h
  · exact next_le (next_le (next_le h))

/-- The first state. -/
def mixF (h : Int) (l : List Int) : Int := l.foldl (fun h z => (h * 137 + z + 11) % 1073741824) h
def newS (zs : List Int) (len : Nat) : St := ⟨0, mixF (774774 + (len : Int)) ((zs.take len).take 4000)⟩

theorem mixF_snoc (h : Int) (l : List Int) (z : Int) : mixF h (l ++ [z]) = (mixF h l * 137 + z + 11) % 1073741824 := by simp [mixF]
theorem mixF_bd (h : Int) (l : List Int) (h0 : 0 ≤ h) (h1 : h < 1073741824) : 0 ≤ mixF h l ∧ mixF h l < 1073741824 := by
  induction l generalizing h with
  | nil => exact ⟨h0, h1⟩
  | cons z r ih => exact ih _ (Int.emod_nonneg _ (by omega)) (Int.emod_lt_of_pos _ (by omega))
theorem take_snocZ (zs : List Int) (k : Nat) (h : k < zs.length) : zs.take (k + 1) = zs.take k ++ [zs.getD k 0] := by
  rw [List.take_succ_eq_append_getElem h]
  simp [List.getD_eq_getElem?_getD, List.getElem?_eq_getElem h]

/-- What l1Int and l1Str pick of a list of n. -/
def pick (zs : List Int) (len : Nat) (c : St) (n : Nat) : Nat := (belowV zs len c n).toNat
theorem pick_lt (zs : List Int) (len : Nat) (c : St) (n : Nat) (h : 0 < n) : pick zs len c n < n := by
  have := belowV_bd zs len c n (by omega)
  unfold pick
  omega

end Go.Proofs.YtkhnkockdfmkgaaGreatDoor.M
namespace Go.Proofs.YtkhnkockdfmkgaaGreatDoor
open Go.RowKit M

/-- The bytes of a draw, in memory: the first len of zs. -/
structure CodeAt (w : World) (a : Option Addr) (len : Nat) (zs : List Int) : Prop where
  le : len ≤ zs.length
  bd : ∀ j, j < len → 0 ≤ zs.getD j 0 ∧ zs.getD j 0 ≤ 255
  at0 : 0 < len → ∃ b off, a = some ⟨b, off, none⟩ ∧ ∀ j, j < len → w.cell? ⟨b, off + j, none⟩ = some (.int .u8 (zs.getD j 0))

/-- A cursor in block N: the bytes, the place, the number mixed. -/
structure Cur (w : World) (N : Nat) (sl : Value) (c : St) : Prop where
  c0 : w.cell? ⟨N, 0, none⟩ = some sl
  c1 : w.cell? ⟨N, 1, none⟩ = some (.int .i64 c.i)
  c2 : w.cell? ⟨N, 2, none⟩ = some (.int .i64 c.h)
  f1 : w.frozen? ⟨N, 1, none⟩ = false
  f2 : w.frozen? ⟨N, 2, none⟩ = false

theorem grown_trans {a b c : World} {r : Option Nat} (h : a.grownBy b r) (k : b.grownBy c r) : a.grownBy c r :=
  ⟨k.os.trans h.os, k.tape.trans h.tape, k.output.trans h.output, Nat.le_trans h.size k.size, fun i hi hr => (k.block i (Nat.lt_of_lt_of_le hi h.size) hr).trans (h.block i hi hr)⟩
theorem grown_refl (a : World) (r : Option Nat) : a.grownBy a r := ⟨rfl, rfl, rfl, Nat.le_refl _, fun _ _ _ => rfl⟩
theorem grown_drewN {a b : World} {r : Option Nat} (h : a.grownBy b r) (n : Nat) : a.grownBy (b.drewN n) r := ⟨h.os, h.tape, h.output, h.size, h.block⟩
theorem grown_set {a b : World} {N : Nat} (h : a.grownBy b (some N)) (o : Nat) (v : Value) : a.grownBy (b.setCell ⟨N, o, none⟩ v) (some N) := by
  have hb := (Below.refl N b).setCell (p := ⟨N, o, none⟩) (Nat.le_refl _) v
  refine ⟨hb.os.trans h.os, hb.tape.trans h.tape, hb.output.trans h.output, Nat.le_trans h.size hb.size, fun i hi hr => ?_⟩
  rw [← h.block i hi hr]
  have hne : N ≠ i := fun e => hr (by rw [e])
  simp only [World.setCell]
  split
  · simp_all
  · rw [Array.getElem?_modify, if_neg hne]
theorem grown_alloc {a b : World} {r : Option Nat} (h : a.grownBy b r) (o : Obj) : a.grownBy (b.alloc o) r :=
  ⟨h.os, h.tape, h.output, Nat.le_trans h.size (by simp), fun i hi hr => (Below.heap_alloc b o i (Nat.lt_of_lt_of_le hi h.size)).trans (h.block i hi hr)⟩
theorem grown_below {a b : World} {N B : Nat} (h : a.grownBy b (some N)) (hB : B ≤ N) (hBa : B ≤ a.heap.size) : Below B a b :=
  ⟨h.os, h.tape, h.output, h.size, fun k hk => h.block k (by omega) (fun e => by cases e; omega)⟩

theorem Cur.set2 {w : World} {N : Nat} {sl : Value} {c : St} (hc : Cur w N sl c) (h : Int) : Cur (w.setCell ⟨N, 2, none⟩ (.int .i64 h)) N sl ⟨c.i, h⟩ :=
  ⟨by rw [World.cell?_setCell_other _ _ _ _ (by simp)]; exact hc.c0, by rw [World.cell?_setCell_other _ _ _ _ (by simp)]; exact hc.c1, World.cell?_setCell_same _ _ _ hc.c2, by rw [World.frozen?_setCell]; exact hc.f1, by rw [World.frozen?_setCell]; exact hc.f2⟩
theorem Cur.set1 {w : World} {N : Nat} {sl : Value} {c : St} (hc : Cur w N sl c) (i : Nat) (v : Int) (hv : v = (i : Int)) : Cur (w.setCell ⟨N, 1, none⟩ (.int .i64 v)) N sl ⟨i, c.h⟩ := by
  subst hv
  exact ⟨by rw [World.cell?_setCell_other _ _ _ _ (by simp)]; exact hc.c0, World.cell?_setCell_same _ _ _ hc.c1, by rw [World.cell?_setCell_other _ _ _ _ (by simp)]; exact hc.c2, by rw [World.frozen?_setCell]; exact hc.f1, by rw [World.frozen?_setCell]; exact hc.f2⟩
theorem Cur.drewN {w : World} {N : Nat} {sl : Value} {c : St} (hc : Cur w N sl c) (n : Nat) : Cur (w.drewN n) N sl c := ⟨hc.c0, hc.c1, hc.c2, hc.f1, hc.f2⟩

set_option maxHeartbeats 1000000 in
theorem l1Byte_any (N : Nat) (a : Option Addr) (len cap : Nat) (zs : List Int) (c : St) (w : World) (hc : Cur w N (.slice a len cap) c) (hd : CodeAt w a len zs) (hbN : 0 < len → ∀ b off, a = some ⟨b, off, none⟩ → b < N) (hlen : len ≤ 1048576) :
    Calls Tryz.prog 99 #[.pointer (some ⟨N, 0, none⟩)] w fun e w' => e = .returned (.int .i64 (xByte zs len c.i c.h)) ∧ Cur w' N (.slice a len cap) (next len c) ∧ w.grownBy w' (some N) := by
  have HC : Hid (Cur w N (.slice a len cap) c) := hc
  obtain ⟨c0, c1, c2, f1, f2⟩ := hc
  obtain ⟨i, h⟩ := c
  simp only at c1 c2
  by_cases hi : i < len
  · obtain ⟨b, off, rfl, hcell⟩ := hd.at0 (by omega)
    have hb := hd.bd i hi
    have hcx := hcell i hi
    have hi' : (i : Int) < (len : Int) := by omega
    have HX : Hid (xByte zs len i h = (xMix h + zs.getD i 0) % 256) := by unfold xByte; exact if_pos hi
    have HN : Hid (next len ⟨i, h⟩ = ⟨i + 1, hNext h⟩) := by unfold next iNext; rw [if_pos hi]; exact rfl
    clear hd hcell
    generalize zs.getD i 0 = z at hb hcx HX
    obtain ⟨hb0, hb1⟩ := hb
    have hlt := hbN (by omega) b off rfl
    have hcx2 : ∀ v, (w.setCell ⟨N, 2, none⟩ v).cell? ⟨b, off + i, none⟩ = some (.int .u8 z) := fun v => by
      rw [World.cell?_setCell_other _ _ _ _ (fun e => by have := congrArg Addr.block e; simp only at this; omega)]; exact hcx
    clear hbN hlt
    have hx := xMix_bd h
    have HM : Hid (bits BinOp.and IntKind.i64 (bits BinOp.xor IntKind.i64 (wrap64 (wrap64 (h * 6364136223846793005) + 1442695040888963407) / 8589934592) (wrap64 (wrap64 (h * 6364136223846793005) + 1442695040888963407) / 140737488355328)) 255 = xMix h) := by
      show _ = _
      rw [i64_and255]; rfl
    go_enter Tryz.func99, Tryz.ntmps99
    go_wp2
    go_quiet (fail)
    rw [HM.out]
    go_wp2
    go_quiet (fail)
    go_wp2
    go_quiet (fail)
    go_wp2
    go_ret
    refine ⟨?_, ?_, ?_⟩
    · rw [HX.out]
      simp only [i64_and255]
      rfl
    · rw [HN.out]
      exact ((HC.out.set2 _).drewN _).set1 (i + 1) ((i : Int) + 1) (by simp)
    · exact grown_set (grown_drewN (grown_set (grown_refl _ _) _ _) _) _ _
  · have hi' : ¬ (i : Int) < (len : Int) := by omega
    have HX : Hid (xByte zs len i h = xMix h) := by unfold xByte; exact if_neg hi
    have HN : Hid (next len ⟨i, h⟩ = ⟨i, hNext h⟩) := by unfold next iNext; rw [if_neg hi]; exact rfl
    clear hd
    go_enter Tryz.func99, Tryz.ntmps99
    go_wp2
    go_quiet (fail)
    go_wp2
    go_quiet (fail)
    go_wp2
    go_ret
    refine ⟨?_, ?_, grown_drewN (grown_drewN (grown_set (grown_refl _ _) _ _) _) _⟩
    · rw [HX.out]
      simp only [xMix, hNext, i64_and255]
      rfl
    · rw [HN.out]
      exact ((HC.out.set2 _).drewN _).drewN _

theorem cur_le {N : Nat} {w w' : World} (h : w.grownBy w' (some N)) {a : Option Addr} {len : Nat} {zs : List Int} (hd : CodeAt w a len zs) (hbN : 0 < len → ∀ b off, a = some ⟨b, off, none⟩ → b < N) : CodeAt w' a len zs := by
  refine ⟨hd.le, hd.bd, fun h0 => ?_⟩
  obtain ⟨b, off, rfl, hc⟩ := hd.at0 h0
  refine ⟨b, off, rfl, fun j hj => ?_⟩
  refine h.cell (hc j hj) ?_
  have := hbN h0 b off rfl
  simp only [ne_eq, Option.some.injEq]
  omega

set_option maxHeartbeats 1000000 in
theorem l1Below_any (N : Nat) (a : Option Addr) (len cap : Nat) (zs : List Int) (c : St) (n : Int) (w : World) (hc : Cur w N (.slice a len cap) c) (hd : CodeAt w a len zs) (hbN : 0 < len → ∀ b off, a = some ⟨b, off, none⟩ → b < N) (hlen : len ≤ 1048576) (hn : 0 < n) (hn2 : n ≤ 1000000) :
    Calls Tryz.prog 56 #[.pointer (some ⟨N, 0, none⟩), .int .i64 n] w fun e w' => e = .returned (.int .i64 (belowV zs len c n)) ∧ Cur w' N (.slice a len cap) (belowS len c n) ∧ w.grownBy w' (some N) := by
  have HB : Hid (0 < len → ∀ b off, a = some ⟨b, off, none⟩ → b < N) := hbN
  have HC : Hid (Cur w N (.slice a len cap) c) := hc
  have HD : Hid (CodeAt w a len zs) := hd
  clear hbN hc hd
  have hn' : ¬ n ≤ 0 := by omega
  have hx1 := xByte_bd zs len c.i c.h
  by_cases h256 : n ≤ 256
  · have HV : Hid (belowV zs len c n = xByte zs len c.i c.h % n) := by unfold belowV; exact if_pos h256
    have HS : Hid (belowS len c n = next len c) := by unfold belowS; exact if_pos h256
    go_enter Tryz.func56, Tryz.ntmps56
    go_wp2_with (go_at_call 99; refine (l1Byte_any N a len cap zs c _ HC.out HD.out HB.out hlen).mono ?_; rintro e w1 ⟨rfl, hc1, hg1⟩)
    go_ret
    exact ⟨by rw [HV.out]; rfl, by rw [HS.out]; exact hc1, hg1⟩
  · have HV : Hid (belowV zs len c n = (xByte zs len c.i c.h * 65536 + xByte zs len (next len c).i (next len c).h * 256 + xByte zs len (next len (next len c)).i (next len (next len c)).h) % n) := by unfold belowV; exact if_neg h256
    have HS : Hid (belowS len c n = next len (next len (next len c))) := by unfold belowS; exact if_neg h256
    have hx2 := xByte_bd zs len (next len c).i (next len c).h
    have hx3 := xByte_bd zs len (next len (next len c)).i (next len (next len c)).h
    go_enter Tryz.func56, Tryz.ntmps56
    go_wp2_with fail
    refine (l1Byte_any N a len cap zs c _ HC.out HD.out HB.out hlen).mono ?_
    rintro e w1 ⟨rfl, hc1, hg1⟩
    have HC1 : Hid (Cur w1 N (.slice a len cap) (next len c)) := hc1
    clear hc1
    go_wp2_with fail
    refine (l1Byte_any N a len cap zs (next len c) _ HC1.out (cur_le hg1 HD.out HB.out) HB.out hlen).mono ?_
    rintro e w2 ⟨rfl, hc2, hg2⟩
    have HC2 : Hid (Cur w2 N (.slice a len cap) (next len (next len c))) := hc2
    clear hc2
    go_wp2_with fail
    refine (l1Byte_any N a len cap zs (next len (next len c)) _ HC2.out (cur_le (grown_trans hg1 hg2) HD.out HB.out) HB.out hlen).mono ?_
    rintro e w3 ⟨rfl, hc3, hg3⟩
    go_wp2
    go_ret
    exact ⟨by rw [HV.out]; rfl, by rw [HS.out]; exact hc3, grown_trans (grown_trans hg1 hg2) hg3⟩
end Go.Proofs.YtkhnkockdfmkgaaGreatDoor
namespace Go.Proofs.YtkhnkockdfmkgaaGreatDoor
open Go.RowKit M

theorem cur_new (w : World) (sl : Value) (m : Int) (T : TypeId) : Cur (w.alloc (Obj.cells #[sl, .int .i64 0, .int .i64 m] T)) w.heap.size sl ⟨0, m⟩ :=
  ⟨by simp, by simp, by simp, by simp, by simp⟩

set_option maxHeartbeats 1000000 in
set_option maxRecDepth 100000 in
theorem l1New_any (a : Option Addr) (len cap : Nat) (zs : List Int) (w : World) (hd : CodeAt w a len zs) (hlen : len ≤ 1048576) :
    Calls Tryz.prog 38 #[.slice a len cap] w fun e w' => e = .returned (.pointer (some ⟨w.heap.size, 0, none⟩)) ∧ Cur w' w.heap.size (.slice a len cap) (newS zs len) ∧ Below w.heap.size w w' ∧ w'.heap.size = w.heap.size + 1 := by
  have HD : Hid (CodeAt w a len zs) := hd
  have hle := hd.le
  clear hd
  go_enter Tryz.func38, Tryz.ntmps38
  go_wp2
  go_loop [3, 4] (fun h i => ∃ k : Nat, k ≤ len ∧ k ≤ 4000 ∧ i = .int .i64 k ∧ h = .int .i64 (mixF (774774 + (len : Int)) (zs.take k))) (fun _ i => len - (intOf i).toNat)
  case atStart => exact ⟨0, Nat.zero_le _, Nat.zero_le _, rfl, rfl⟩
  case round =>
    obtain ⟨k, hk, hk4, rfl, rfl⟩ := hrel
    have hm := mixF_bd (774774 + (len : Int)) (zs.take k) (by omega) (by omega)
    by_cases hlt : k < len
    · by_cases h4 : k < 4000
      · obtain ⟨b, off, rfl, hcell⟩ := HD.out.at0 (by omega)
        have hcx := hcell k hlt
        have hb := HD.out.bd k hlt
        have HS : Hid (mixF (774774 + (len : Int)) (zs.take (k + 1)) = (mixF (774774 + (len : Int)) (zs.take k) * 137 + zs.getD k 0 + 11) % 1073741824) := by
          show _ = _
          rw [take_snocZ zs k (by omega), mixF_snoc]
        clear hcell
        obtain ⟨m, hmm⟩ : ∃ m, m = mixF (774774 + (len : Int)) (zs.take k) := ⟨_, rfl⟩
        rw [← hmm] at hm HS ⊢
        clear hmm
        generalize zs.getD k 0 = z at hcx hb HS
        go_wp2
        go_round
        case rel =>
          refine ⟨k + 1, by omega, by omega, by go_num, ?_⟩
          rw [HS.out]
          simp only [i64_and30]
        case measure => simp [intOf]; omega
      · have e4 : newS zs len = ⟨0, mixF (774774 + (len : Int)) (zs.take k)⟩ := by
          unfold newS
          rw [List.take_take, show min 4000 len = k by omega]
        have HE : Hid (newS zs len = ⟨0, mixF (774774 + (len : Int)) (zs.take k)⟩) := e4
        clear e4
        obtain ⟨m, hmm⟩ : ∃ m, m = mixF (774774 + (len : Int)) (zs.take k) := ⟨_, rfl⟩
        rw [← hmm] at hm HE ⊢
        clear hmm
        go_wp2
        go_ret
        exact ⟨rfl, by rw [HE.out]; exact cur_new _ _ _ _, (Below.refl _ _).alloc (Nat.le_refl _) _, by simp⟩
    · have e4 : newS zs len = ⟨0, mixF (774774 + (len : Int)) (zs.take k)⟩ := by
        unfold newS
        rw [List.take_take, show min 4000 len = k by omega]
      have HE : Hid (newS zs len = ⟨0, mixF (774774 + (len : Int)) (zs.take k)⟩) := e4
      clear e4
      obtain ⟨m, hmm⟩ : ∃ m, m = mixF (774774 + (len : Int)) (zs.take k) := ⟨_, rfl⟩
      rw [← hmm] at hm HE ⊢
      clear hmm
      go_wp2
      go_ret
      exact ⟨rfl, by rw [HE.out]; exact cur_new _ _ _ _, (Below.refl _ _).alloc (Nat.le_refl _) _, by simp⟩

set_option maxHeartbeats 400000 in
theorem l1Str_any (N M : Nat) (a : Option Addr) (len cap n : Nat) (zs : List Int) (ss : List ByteArray) (c : St) (w : World) (hc : Cur w N (.slice a len cap) c) (hd : CodeAt w a len zs) (hbN : 0 < len → ∀ b off, a = some ⟨b, off, none⟩ → b < N) (hlen : len ≤ 1048576) (hn : 0 < n) (hn2 : n ≤ 256) (hMN : M ≠ N)
    (hls : ∀ j, j < n → w.cell? ⟨M, j, none⟩ = some (.string (ss.getD j ByteArray.empty))) :
    Calls Tryz.prog 58 #[.pointer (some ⟨N, 0, none⟩), .slice (some ⟨M, 0, none⟩) n n] w fun e w' => e = .returned (.string (ss.getD (pick zs len c n) ByteArray.empty)) ∧ Cur w' N (.slice a len cap) (belowS len c n) ∧ w.grownBy w' (some N) := by
  have HB : Hid (Calls Tryz.prog 56 #[.pointer (some ⟨N, 0, none⟩), .int .i64 (n : Int)] w fun e w' => e = .returned (.int .i64 (belowV zs len c n)) ∧ Cur w' N (.slice a len cap) (belowS len c n) ∧ w.grownBy w' (some N)) :=
    l1Below_any N a len cap zs c n w hc hd hbN hlen (by omega) (by omega)
  have HL : Hid (∀ j, j < n → w.cell? ⟨M, j, none⟩ = some (.string (ss.getD j ByteArray.empty))) := hls
  have hp := pick_lt zs len c n hn
  have ep : belowV zs len c n = (pick zs len c n : Int) := by
    have := belowV_bd zs len c n (by omega)
    unfold pick
    omega
  rw [ep] at HB
  clear hbN hc hd hls ep
  generalize pick zs len c n = p at *
  go_enter Tryz.func58, Tryz.ntmps58
  go_wp2_with fail
  refine HB.out.mono ?_
  rintro e w1 ⟨rfl, hc1, hg1⟩
  have hcx : w1.cell? ⟨M, p, none⟩ = some (.string (ss.getD p ByteArray.empty)) := hg1.cell (HL.out p hp) (by simpa using hMN)
  have HC1 : Hid (Cur w1 N (.slice a len cap) (belowS len c n)) := hc1
  have HG1 : Hid (w.grownBy w1 (some N)) := hg1
  clear hc1 hg1 HL
  go_wp2
  go_ret
  exact ⟨rfl, HC1.out, HG1.out⟩
end Go.Proofs.YtkhnkockdfmkgaaGreatDoor
namespace Go.Proofs.YtkhnkockdfmkgaaGreatDoor
open Go.RowKit M

/-- All that a call on a cursor in block N wants. -/
structure DC (w : World) (N : Nat) (a : Option Addr) (len cap : Nat) (zs : List Int) (c : St) : Prop where
  cur : Cur w N (.slice a len cap) c
  code : CodeAt w a len zs
  bN : 0 < len → ∀ b off, a = some ⟨b, off, none⟩ → b < N
  hlen : len ≤ 1048576
  lt : N < w.heap.size

theorem DC.grown {w w' : World} {N : Nat} {a : Option Addr} {len cap : Nat} {zs : List Int} {c c' : St} (h : DC w N a len cap zs c) (hg : w.grownBy w' (some N)) (hc : Cur w' N (.slice a len cap) c') : DC w' N a len cap zs c' :=
  ⟨hc, cur_le hg h.code h.bN, h.bN, h.hlen, Nat.lt_of_lt_of_le h.lt hg.size⟩

theorem DC.alloc {w : World} {N : Nat} {a : Option Addr} {len cap : Nat} {zs : List Int} {c : St} (h : DC w N a len cap zs c) (o : Obj) : DC (w.alloc o) N a len cap zs c := by
  have hg : w.grownBy (w.alloc o) (some N) := grown_alloc (grown_refl _ _) o
  refine ⟨⟨?_, ?_, ?_, ?_, ?_⟩, cur_le hg h.code h.bN, h.bN, h.hlen, Nat.lt_of_lt_of_le h.lt hg.size⟩
  · exact (World.cell?_alloc_past o N 0 h.lt).trans h.cur.c0
  · exact (World.cell?_alloc_past o N 1 h.lt).trans h.cur.c1
  · exact (World.cell?_alloc_past o N 2 h.lt).trans h.cur.c2
  · exact (World.frozen?_alloc_past o N 1 h.lt).trans h.cur.f1
  · exact (World.frozen?_alloc_past o N 2 h.lt).trans h.cur.f2

theorem row_strs (w : World) (ss : List ByteArray) (T : TypeId) (C : Array Value) (n : Nat) (hC : C = (ss.map Value.string).toArray) (hn : ss.length = n) : ∀ j, j < n → (w.alloc (.cells C T)).cell? ⟨w.heap.size, j, none⟩ = some (.string (ss.getD j ByteArray.empty)) := by
  subst hC hn
  intro j hj
  rw [World.cell?_alloc_new]
  simp [List.getD_eq_getElem?_getD, List.getElem?_eq_getElem hj]

/-- l1Str at a list that was just built. -/
theorem strNew {w : World} {N : Nat} {a : Option Addr} {len cap : Nat} {zs : List Int} {c : St} (h : DC w N a len cap zs c) (ss : List ByteArray) (C : Array Value) (T : TypeId) (n M : Nat) (hM : M = w.heap.size) (hC : C = (ss.map Value.string).toArray) (hn : ss.length = n) (h0 : 0 < n) (h1 : n ≤ 256) :
    Calls Tryz.prog 58 #[.pointer (some ⟨N, 0, none⟩), .slice (some ⟨M, 0, none⟩) n n] (w.alloc (.cells C T)) fun e w' => e = .returned (.string (ss.getD (pick zs len c n) ByteArray.empty)) ∧ DC w' N a len cap zs (belowS len c n) ∧ w.grownBy w' (some N) := by
  subst hM
  have hA := h.alloc (.cells C T)
  refine (l1Str_any N w.heap.size a len cap n zs ss c _ hA.cur hA.code h.bN h.hlen h0 h1 (by have := h.lt; omega) (row_strs w ss T C n hC hn)).mono ?_
  rintro e w1 ⟨rfl, hc1, hg1⟩
  exact ⟨rfl, hA.grown hg1 hc1, grown_trans (grown_alloc (grown_refl _ _) _) hg1⟩

def textL : List ByteArray := [⟨#[]⟩, ⟨#[97]⟩, ⟨#[98]⟩, ⟨#[97, 98]⟩, ⟨#[97, 45, 98]⟩, ⟨#[65, 98]⟩, ⟨#[32, 97, 32]⟩, ⟨#[120, 49]⟩, ⟨#[116, 119, 101, 110, 116, 121, 45, 111, 110, 101, 45, 115, 109, 97, 108, 108, 45, 116, 101, 120, 116]⟩, ⟨#[97, 32, 98]⟩, ⟨#[9]⟩, ⟨#[127]⟩, ⟨#[49, 97]⟩, ⟨#[45, 97]⟩, ⟨#[60, 97, 38, 98, 62]⟩, ⟨#[34, 113, 34]⟩]
def textV (zs : List Int) (len : Nat) (c : St) : ByteArray := textL.getD (pick zs len c 16) ByteArray.empty
end Go.Proofs.YtkhnkockdfmkgaaGreatDoor
namespace Go.Proofs.YtkhnkockdfmkgaaGreatDoor
open Go.RowKit M

/-- The bytes of a draw, in old memory. -/
structure CodeIn (w : World) (B : Nat) (a : Option Addr) (len : Nat) (zs : List Int) : Prop where
  code : CodeAt w a len zs
  bB : 0 < len → ∀ b off, a = some ⟨b, off, none⟩ → b < B
  hlen : len ≤ 1048576
  hB : B ≤ w.heap.size

theorem CodeIn.below {w w' : World} {B : Nat} {a : Option Addr} {len : Nat} {zs : List Int} (h : CodeIn w B a len zs) (hb : Below B w w') : CodeIn w' B a len zs := by
  refine ⟨⟨h.code.le, h.code.bd, fun h0 => ?_⟩, h.bB, h.hlen, Nat.le_trans h.hB hb.size⟩
  obtain ⟨b, off, rfl, hc⟩ := h.code.at0 h0
  refine ⟨b, off, rfl, fun j hj => ?_⟩
  exact (hb.cell (p := ⟨b, off + j, none⟩) (h.bB h0 b off rfl)).trans (hc j hj)

/-- A new cursor over them. -/
theorem newDC {w : World} {B : Nat} {a : Option Addr} {len : Nat} {zs : List Int} (h : CodeIn w B a len zs) (cap : Nat) :
    Calls Tryz.prog 38 #[.slice a len cap] w fun e w' => e = .returned (.pointer (some ⟨w.heap.size, 0, none⟩)) ∧ DC w' w.heap.size a len cap zs (newS zs len) ∧ Below w.heap.size w w' := by
  refine (l1New_any a len cap zs w h.code h.hlen).mono ?_
  rintro e w1 ⟨rfl, hc, hb, hs⟩
  have h1 := h.below (hb.mono h.hB)
  exact ⟨rfl, ⟨hc, h1.code, fun h0 b off e => Nat.lt_of_lt_of_le (h.bB h0 b off e) h.hB, h.hlen, by omega⟩, hb⟩

theorem dc_below {w w1 w2 : World} (hb : Below w.heap.size w w1) (hg : w1.grownBy w2 (some w.heap.size)) : Below w.heap.size w w2 :=
  hb.trans (grown_below hg (Nat.le_refl _) hb.size)

theorem getD_mem {α : Type} (l : List α) (i : Nat) (d : α) (p : α → Prop) (h : ∀ x ∈ l, p x) (hd : p d) : p (l.getD i d) := by
  rw [List.getD_eq_getElem?_getD]
  cases e : l[i]? with
  | none => exact hd
  | some x => exact h x (List.mem_of_getElem? e)

theorem textV_le (zs : List Int) (len : Nat) (c : St) : (textV zs len c).size ≤ 100 :=
  getD_mem textL _ _ (fun s => s.size ≤ 100) (by decide) (by decide)
end Go.Proofs.YtkhnkockdfmkgaaGreatDoor
namespace Go.Proofs.YtkhnkockdfmkgaaGreatDoor
open Go.RowKit M
set_option linter.unusedVariables false

/-- A cursor in block N, wherever it stands. -/
def DX (w : World) (N : Nat) (a : Option Addr) (len cap : Nat) (zs : List Int) : Prop := ∃ c, DC w N a len cap zs c

theorem DX.alloc {w : World} {N : Nat} {a : Option Addr} {len cap : Nat} {zs : List Int} (h : DX w N a len cap zs) (o : Obj) : DX (w.alloc o) N a len cap zs := by
  obtain ⟨c, h⟩ := h; exact ⟨c, h.alloc o⟩

theorem l1BelowX {w : World} {N : Nat} {a : Option Addr} {len cap : Nat} {zs : List Int} (h : DX w N a len cap zs) (n : Int) (hn : 0 < n) (hn2 : n ≤ 1000000) :
    Calls Tryz.prog 56 #[.pointer (some ⟨N, 0, none⟩), .int .i64 n] w fun e w' => (∃ k : Nat, e = .returned (.int .i64 k) ∧ (k : Int) < n) ∧ DX w' N a len cap zs ∧ w.grownBy w' (some N) := by
  obtain ⟨c, h⟩ := h
  refine (l1Below_any N a len cap zs c n w h.cur h.code h.bN h.hlen hn hn2).mono ?_
  rintro e w1 ⟨rfl, hc1, hg1⟩
  have hb := belowV_bd zs len c n hn
  exact ⟨⟨(belowV zs len c n).toNat, by rw [Int.toNat_of_nonneg hb.1], by rw [Int.toNat_of_nonneg hb.1]; exact hb.2⟩, ⟨_, h.grown hg1 hc1⟩, hg1⟩

/-- The cursor stands where another row of the call's own has grown. -/
theorem DX.other {w w' : World} {N : Nat} {a : Option Addr} {len cap : Nat} {zs : List Int} (h : DX w N a len cap zs) (hs : w.heap.size ≤ w'.heap.size) (hk : ∀ k, k ≤ N → w'.heap[k]? = w.heap[k]?) : DX w' N a len cap zs := by
  obtain ⟨c, h⟩ := h
  have hc : ∀ p : Addr, p.block ≤ N → w'.cell? p = w.cell? p := fun p hp => World.cell?_of_block (w := w) (hk p.block hp)
  have hf : ∀ p : Addr, p.block ≤ N → w'.frozen? p = w.frozen? p := fun p hp => World.frozen?_of_block (w := w) (hk p.block hp)
  refine ⟨c, ⟨⟨?_, ?_, ?_, ?_, ?_⟩, ?_, h.bN, h.hlen, Nat.lt_of_lt_of_le h.lt hs⟩⟩
  · rw [hc _ (Nat.le_refl _)]; exact h.cur.c0
  · rw [hc _ (Nat.le_refl _)]; exact h.cur.c1
  · rw [hc _ (Nat.le_refl _)]; exact h.cur.c2
  · rw [hf _ (Nat.le_refl _)]; exact h.cur.f1
  · rw [hf _ (Nat.le_refl _)]; exact h.cur.f2
  · refine ⟨h.code.le, h.code.bd, fun h0 => ?_⟩
    obtain ⟨b, off, e, hcc⟩ := h.code.at0 h0
    have hb := h.bN h0 b off e
    exact ⟨b, off, e, fun j hj => by rw [hc ⟨b, off + j, none⟩ (by show b ≤ N; omega)]; exact hcc j hj⟩

theorem grown_past {w w1 w2 : World} {r : Option Nat} (h : w.grownBy w1 r) (hb : Below w.heap.size w1 w2) : w.grownBy w2 r :=
  ⟨hb.os.trans h.os, hb.tape.trans h.tape, hb.output.trans h.output, Nat.le_trans h.size hb.size, fun k hk hne => (hb.block k hk).trans (h.block k hk hne)⟩

theorem strNewX {w : World} {N : Nat} {a : Option Addr} {len cap : Nat} {zs : List Int} (h : DX w N a len cap zs) (ss : List ByteArray) (C : Array Value) (T : TypeId) (n M : Nat) (hM : M = w.heap.size) (hC : C = (ss.map Value.string).toArray) (hn : ss.length = n) (h0 : 0 < n) (h1 : n ≤ 256) (hz : ∀ s ∈ ss, s.size ≤ 20) :
    Calls Tryz.prog 58 #[.pointer (some ⟨N, 0, none⟩), .slice (some ⟨M, 0, none⟩) n n] (w.alloc (.cells C T)) fun e w' => (∃ s : ByteArray, e = .returned (.string s) ∧ s.size ≤ 20) ∧ DX w' N a len cap zs ∧ w.grownBy w' (some N) := by
  obtain ⟨c, h⟩ := h
  refine (strNew h ss C T n M hM hC hn h0 h1).mono ?_
  rintro e w1 ⟨rfl, hd, hg⟩
  exact ⟨⟨_, rfl, getD_mem ss _ _ (fun s => s.size ≤ 20) hz (by decide)⟩, ⟨_, hd⟩, hg⟩

theorem DX.lt {w : World} {N : Nat} {a : Option Addr} {len cap : Nat} {zs : List Int} (h : DX w N a len cap zs) : N < w.heap.size := by obtain ⟨c, h⟩ := h; exact h.lt

theorem newDX {w : World} {B : Nat} {a : Option Addr} {len : Nat} {zs : List Int} (h : CodeIn w B a len zs) (cap : Nat) :
    Calls Tryz.prog 38 #[.slice a len cap] w fun e w' => e = .returned (.pointer (some ⟨w.heap.size, 0, none⟩)) ∧ DX w' w.heap.size a len cap zs ∧ Below w.heap.size w w' := by
  refine (newDC h cap).mono ?_
  rintro e w1 ⟨rfl, hd, hb⟩
  exact ⟨rfl, ⟨_, hd⟩, hb⟩
end Go.Proofs.YtkhnkockdfmkgaaGreatDoor
namespace Go.Proofs.YtkhnkockdfmkgaaGreatDoor
open Go.RowKit M
set_option linter.unusedVariables false

def hNameD : List ByteArray := [⟨#[105, 102]⟩, ⟨#[100, 101, 112, 116, 104]⟩, ⟨#[120, 45, 97]⟩, ⟨#[104, 111, 115, 116]⟩, ⟨#[105, 102, 45, 109, 97, 116, 99, 104]⟩]
def hValD : List ByteArray := [⟨#[]⟩, ⟨#[48]⟩, ⟨#[105, 110, 102, 105, 110, 105, 116, 121]⟩, ⟨#[97, 32, 98]⟩, ⟨#[34, 118, 49, 34]⟩, ⟨#[40, 60, 49, 62, 41]⟩]

set_option maxHeartbeats 2000000 in
theorem l3DrawHeads_any {w : World} {N : Nat} {a : Option Addr} {len cap : Nat} {zs : List Int} (h : DX w N a len cap zs) :
    Calls Tryz.prog 110 #[.pointer (some ⟨N, 0, none⟩)] w fun e w' => (∃ (hs : List Hd) (n g c : Nat), FewH 2 hs ∧ n = hs.length ∧ e = .returned (.slice (some ⟨g, 0, none⟩) n c) ∧ w'.ownsRow w.heap.size 65 2 (.slice (some ⟨g, 0, none⟩) n c) n (hdCells hs)) ∧ DX w' N a len cap zs ∧ w.grownBy w' (some N) := by
  have hlt := h.lt
  have H : Hid (DX w N a len cap zs) := h
  clear h
  go_enter Tryz.func110, Tryz.ntmps110
  go_wp2_with fail
  refine (l1BelowX (H.out.alloc _) 3 (by decide) (by decide)).mono ?_
  rintro e w1 ⟨⟨k0, rfl, hk0⟩, hd1, hg1⟩
  have hgw : w.grownBy w1 (some N) := grown_trans (grown_alloc (grown_refl _ _) _) hg1
  have hown0 : w1.ownsRow w.heap.size 65 2 (.slice (some ⟨w.heap.size, 0, none⟩) 0 0) 0 (hdCells []) := ownsH_grown (World.ownsRow_made w #[] 0 (Nat.le_refl _) (by decide) rfl) hg1 hlt
  have HD : Hid (DX w1 N a len cap zs) := hd1
  have HG : Hid (w.grownBy w1 (some N)) := hgw
  clear hg1 hgw hd1
  go_wp2
  go_loopw [3, 4] (fun v i wr => ∃ (k : Nat) (hs : List Hd) (n g c : Nat), i = .int .i64 k ∧ v = .slice (some ⟨g, 0, none⟩) n c ∧ n = hs.length ∧ n + k ≤ 2 ∧ FewH n hs ∧ wr.ownsRow w.heap.size 65 2 (.slice (some ⟨g, 0, none⟩) n c) n (hdCells hs) ∧ DX wr N a len cap zs ∧ w.grownBy wr (some N)) (fun _ i _ => (intOf i).toNat)
  case atStart => exact ⟨k0, [], 0, w.heap.size, 0, rfl, rfl, rfl, by omega, ⟨Nat.le_refl _, fun _ h => by cases h⟩, hown0, HD.out, HG.out⟩
  case round =>
    obtain ⟨k, hs, n, g, c, rfl, rfl, hn, hnk, hf, hown, hd, hg⟩ := hrel
    have HN : Hid (n = hs.length) := hn
    have HF : Hid (FewH n hs) := hf
    have HD2 : Hid (DX wr N a len cap zs) := hd
    have HG2 : Hid (w.grownBy wr (some N)) := hg
    clear hn hf hd hg hown0
    by_cases h0 : 0 < k
    · have h0' : (0 : Int) < k := by omega
      go_wp2_with fail
      refine (strNewX HD2.out hNameD _ _ 5 _ rfl rfl rfl (by decide) (by decide) (by decide)).mono ?_
      rintro e w2 ⟨⟨x, rfl, hx⟩, hd2, hg2⟩
      have hown2 := ownsH_grown hown hg2 hlt
      have HG3 : Hid (w.grownBy w2 (some N)) := grown_trans HG2.out hg2
      have HD3 : Hid (DX w2 N a len cap zs) := hd2
      clear hd2 hg2
      go_wp2_with fail
      refine (strNewX HD3.out hValD _ _ 6 _ rfl rfl rfl (by decide) (by decide) (by decide)).mono ?_
      rintro e w3 ⟨⟨y, rfl, hy⟩, hd3, hg3⟩
      have hown3 := ownsH_grown hown2 hg3 hlt
      have HG4 : Hid (w.grownBy w3 (some N)) := grown_trans HG3.out hg3
      have HD4 : Hid (DX w3 N a len cap zs) := hd3
      clear hd3 hg3
      have hsz := HG4.out.size
      go_wp2_with (at_builtin; refine wp_append_head rfl _ _ rfl w.heap.size _ n hs rfl (hown3.alloc _) _ (x, y) rfl ?c0 ?c1 ?c2 ?c3 ?_)
      case c2 => omega
      case c3 => simp; omega
      intro g1 cap1 w4 ho4 hb4
      have HD5 : Hid (DX w4 N a len cap zs) := (HD4.out.alloc _).other hb4.size (fun k hk => hb4.block k (by omega))
      have HG5 : Hid (w.grownBy w4 (some N)) := grown_past (grown_alloc HG4.out _) hb4
      go_wp2
      go_roundw
      case rel => exact ⟨k - 1, hs ++ [(x, y)], n + 1, g1, cap1, by first | go_num | (congr 1; omega), rfl, by rw [List.length_append, ← HN.out]; rfl, by omega, HF.out.snoc (by show x.size ≤ 60; omega) (by show y.size ≤ 60; omega), ho4, HD5.out, HG5.out⟩
      case measure => simp [intOf]; omega
    · have hk : k = 0 := by omega
      subst hk
      go_wp2
      go_ret
      exact ⟨⟨hs, n, g, c, HF.out.mono (by omega), HN.out, rfl, hown⟩, HD2.out, HG2.out⟩

def bodyD : List ByteArray := [⟨#[]⟩, ⟨#[]⟩, ⟨#[97]⟩, ⟨#[104, 101, 108, 108, 111]⟩, ⟨#[60, 97, 47, 62]⟩, ⟨#[13, 10, 13, 10]⟩, ⟨#[120, 0, 255]⟩]
def methD : List ByteArray := [⟨#[71, 69, 84]⟩, ⟨#[80, 85, 84]⟩, ⟨#[77, 75, 67, 79, 76]⟩, ⟨#[68, 69, 76, 69, 84, 69]⟩, ⟨#[67, 79, 80, 89]⟩]
def pathD : List ByteArray := [⟨#[47]⟩, ⟨#[47, 97]⟩, ⟨#[47, 97, 47, 98]⟩, ⟨#[47, 97, 37, 50, 48, 98]⟩, ⟨#[120]⟩]

set_option maxHeartbeats 400000 in
theorem l3Body_any {w : World} {N : Nat} {a : Option Addr} {len cap : Nat} {zs : List Int} (h : DX w N a len cap zs) :
    Calls Tryz.prog 57 #[.pointer (some ⟨N, 0, none⟩)] w fun e w' => (∃ s : ByteArray, e = .returned (.string s) ∧ s.size ≤ 20) ∧ DX w' N a len cap zs ∧ w.grownBy w' (some N) := by
  have H : Hid (DX w N a len cap zs) := h
  clear h
  go_enter Tryz.func57, Tryz.ntmps57
  go_wp2_with fail
  refine (strNewX H.out bodyD _ _ 7 _ rfl rfl rfl (by decide) (by decide) (by decide)).mono ?_
  rintro e w1 ⟨⟨x, rfl, hx⟩, hd1, hg1⟩
  have HD : Hid (DX w1 N a len cap zs) := hd1
  have HG : Hid (w.grownBy w1 (some N)) := hg1
  clear hd1 hg1
  go_wp2
  go_ret
  exact ⟨⟨x, rfl, hx⟩, HD.out, HG.out⟩

theorem ownsH_base {w : World} {B C : Nat} {v : Value} {n : Nat} {xs : List Value} (h : w.ownsRow B 65 2 v n xs) (hC : C ≤ B) : w.ownsRow C 65 2 v n xs := by
  refine ⟨h.1, ?_⟩
  rcases h.2 with h0 | ⟨g, cap, cur, hv, hb, hr⟩
  · exact .inl h0
  · exact .inr ⟨g, cap, cur, hv, Nat.le_trans hC hb, hr⟩
theorem ownsH_set {w : World} {B g n c : Nat} {xs : List Value} {p : Addr} {u : Value} (h : w.ownsRow B 65 2 (.slice (some ⟨g, 0, none⟩) n c) n xs) (hp : p.block ≠ g) : (w.setCell p u).ownsRow B 65 2 (.slice (some ⟨g, 0, none⟩) n c) n xs := by
  refine ⟨h.1, ?_⟩
  rcases h.2 with h0 | ⟨g', cap, cur, hv, hb, hr, hq⟩
  · exact .inl h0
  · cases hv
    exact .inr ⟨g, c, cur, rfl, hb, (heap_setCell_other w p g u (fun e => hp e.symm)).trans hr, hq⟩
theorem DX.set4 {w : World} {N : Nat} {a : Option Addr} {len cap : Nat} {zs : List Int} {p : Addr} {u : Value} (h : DX w N a len cap zs) (hp : N < p.block) : DX (w.setCell p u) N a len cap zs :=
  h.other (by simp) (fun k hk => heap_setCell_other w p k u (by omega))

theorem below_sets {w : World} {C M : Nat} (h : C ≤ M) (a b c d : Value) : Below C w ((((w.setCell ⟨M, 0, none⟩ a).setCell ⟨M, 1, none⟩ b).setCell ⟨M, 2, none⟩ c).setCell ⟨M, 3, none⟩ d) := by
  have h1 : Below C w (w.setCell ⟨M, 0, none⟩ a) := (Below.refl C w).setCell h a
  have h2 : Below C w ((w.setCell ⟨M, 0, none⟩ a).setCell ⟨M, 1, none⟩ b) := h1.setCell h b
  have h3 : Below C w (((w.setCell ⟨M, 0, none⟩ a).setCell ⟨M, 1, none⟩ b).setCell ⟨M, 2, none⟩ c) := h2.setCell h c
  exact h3.setCell h d

/-- A box of four cells that may be written. -/
def Ret4 (w : World) (M : Nat) : Prop := M < w.heap.size ∧ (∃ v, w.cell? ⟨M, 0, none⟩ = some v) ∧ (∃ v, w.cell? ⟨M, 1, none⟩ = some v) ∧ (∃ v, w.cell? ⟨M, 2, none⟩ = some v) ∧ (∃ v, w.cell? ⟨M, 3, none⟩ = some v) ∧ w.frozen? ⟨M, 0, none⟩ = false ∧ w.frozen? ⟨M, 1, none⟩ = false ∧ w.frozen? ⟨M, 2, none⟩ = false ∧ w.frozen? ⟨M, 3, none⟩ = false
theorem Ret4.made (w : World) (T : TypeId) : Ret4 (w.alloc (Obj.cells #[Value.string { data := #[] }, Value.string { data := #[] }, Value.slice none 0 0, Value.string { data := #[] }] T)) w.heap.size :=
  ⟨by simp, ⟨_, by simp; rfl⟩, ⟨_, by simp; rfl⟩, ⟨_, by simp; rfl⟩, ⟨_, by simp; rfl⟩, by simp, by simp, by simp, by simp⟩
theorem Ret4.grown {w w' : World} {M N : Nat} (h : Ret4 w M) (hg : w.grownBy w' (some N)) (hN : N < M) : Ret4 w' M := by
  have hb : w'.heap[M]? = w.heap[M]? := hg.block M h.1 (by simp; omega)
  have hc : ∀ o, w'.cell? ⟨M, o, none⟩ = w.cell? ⟨M, o, none⟩ := fun o => World.cell?_of_block (a := ⟨M, o, none⟩) hb
  have hf : ∀ o, w'.frozen? ⟨M, o, none⟩ = w.frozen? ⟨M, o, none⟩ := fun o => World.frozen?_of_block (a := ⟨M, o, none⟩) hb
  obtain ⟨h0, h1, h2, h3, h4, h5, h6, h7, h8⟩ := h
  exact ⟨Nat.lt_of_lt_of_le h0 hg.size, by rw [hc]; exact h1, by rw [hc]; exact h2, by rw [hc]; exact h3, by rw [hc]; exact h4, by rw [hf]; exact h5, by rw [hf]; exact h6, by rw [hf]; exact h7, by rw [hf]; exact h8⟩
end Go.Proofs.YtkhnkockdfmkgaaGreatDoor
namespace Go.Proofs.YtkhnkockdfmkgaaGreatDoor
open Go.RowKit M
set_option linter.unusedVariables false

/-- A drawn request. -/
def DrawnR (w' : World) (B : Nat) (e : Ending) : Prop := ∃ (r : Rq) (g c : Nat), FewH 2 r.hs ∧ r.m.size ≤ 20 ∧ r.p.size ≤ 20 ∧ r.b.size ≤ 20 ∧ e = .returned (.agg #[.string r.m, .string r.p, .slice (some ⟨g, 0, none⟩) r.hs.length c, .string r.b]) ∧ w'.ownsRow B 65 2 (.slice (some ⟨g, 0, none⟩) r.hs.length c) r.hs.length (hdCells r.hs)

set_option maxHeartbeats 2000000 in
theorem l3Draw_any {w : World} {N : Nat} {a : Option Addr} {len cap : Nat} {zs : List Int} (h : DX w N a len cap zs) :
    Calls Tryz.prog 75 #[.pointer (some ⟨N, 0, none⟩)] w fun e w' => DrawnR w' w.heap.size e ∧ DX w' N a len cap zs ∧ w.grownBy w' (some N) := by
  have hlt := h.lt
  have H : Hid (DX w N a len cap zs) := h
  clear h
  go_enter Tryz.func75, Tryz.ntmps75
  have HA : Hid (DX (w.alloc (Obj.cells #[Value.string { data := #[] }, Value.string { data := #[] }, Value.slice none 0 0, Value.string { data := #[] }] 26)) N a len cap zs) := H.out.alloc _
  have HG0 : Hid (w.grownBy (w.alloc (Obj.cells #[Value.string { data := #[] }, Value.string { data := #[] }, Value.slice none 0 0, Value.string { data := #[] }] 26)) (some N)) := grown_alloc (grown_refl _ _) _
  go_wp2_with fail
  refine (strNewX HA.out methD _ _ 5 _ (by simp) rfl rfl (by decide) (by decide) (by decide)).mono ?_
  rintro e w1 ⟨⟨x, rfl, hx⟩, hd1, hg1⟩
  have HD1 : Hid (DX w1 N a len cap zs) := hd1
  have HG1 : Hid (w.grownBy w1 (some N)) := grown_trans HG0.out hg1
  have hz1 : w.heap.size < w1.heap.size := by have := hg1.size; simp at this; omega
  have hr1 : Ret4 w1 w.heap.size := (Ret4.made w 26).grown hg1 (by omega)
  have HR1 := hide hr1
  clear hd1 hg1 hr1
  go_wp2_with fail
  refine (strNewX HD1.out pathD _ _ 5 _ rfl rfl rfl (by decide) (by decide) (by decide)).mono ?_
  rintro e w2 ⟨⟨y, rfl, hy⟩, hd2, hg2⟩
  have HD2 : Hid (DX w2 N a len cap zs) := hd2
  have HG2 : Hid (w.grownBy w2 (some N)) := grown_trans HG1.out hg2
  have HR2 := hide (HR1.out.grown hg2 (by omega))
  have hz2 : w.heap.size < w2.heap.size := by have := hg2.size; omega
  clear hd2 hg2
  go_wp2_with fail
  refine (l3DrawHeads_any HD2.out).mono ?_
  rintro e w3 ⟨⟨hs, n, g, c, hf, hn, rfl, hown⟩, hd3, hg3⟩
  have HD3 : Hid (DX w3 N a len cap zs) := hd3
  have HG3 : Hid (w.grownBy w3 (some N)) := grown_trans HG2.out hg3
  have HR3 := hide (HR2.out.grown hg3 (by omega))
  have HF := hide hf
  have HN := hide hn
  have hz3 : w2.heap.size ≤ w3.heap.size := hg3.size
  clear hd3 hg3 hf hn
  go_wp2_with fail
  refine (l3Body_any HD3.out).mono ?_
  rintro e w4 ⟨⟨z, rfl, hz⟩, hd4, hg4⟩
  have HD4 : Hid (DX w4 N a len cap zs) := hd4
  have HG4 : Hid (w.grownBy w4 (some N)) := grown_trans HG3.out hg4
  have hr4 := HR3.out.grown hg4 (by omega)
  have hown4 := ownsH_grown hown hg4 (by omega)
  have hz4 : w3.heap.size ≤ w4.heap.size := hg4.size
  have HO := hide hown4
  clear hd4 hg4 hown hown4
  obtain ⟨_, ⟨t0, r0⟩, ⟨t1, r1⟩, ⟨t2, r2⟩, ⟨t3, r3⟩, f0, f1, f2, f3⟩ := hr4
  go_wp2
  refine bodyPost_ret (v := .agg #[.string x, .string y, .slice (some ⟨g, 0, none⟩) n c, .string z]) (by simp [results, Tryz.results75, go_sem, r0, r1, r2, r3]) rfl ⟨⟨⟨x, y, hs, z⟩, g, c, HF.out, hx, hy, hz, by rw [← HN.out], ?_⟩, ?_, ?_⟩
  · have h4 := HO.out
    have hgl := (h4.lt g rfl).1
    rw [← HN.out]
    have h5 : w4.ownsRow w.heap.size 65 2 (.slice (some ⟨g, 0, none⟩) n c) n (hdCells hs) := ownsH_base h4 (by omega)
    exact ownsH_set (ownsH_set (ownsH_set (ownsH_set h5 (by simp; omega)) (by simp; omega)) (by simp; omega)) (by simp; omega)
  · exact (((HD4.out.set4 (by simp; omega)).set4 (by simp; omega)).set4 (by simp; omega)).set4 (by simp; omega)
  · exact grown_past HG4.out (below_sets (Nat.le_refl _) _ _ _ _)
end Go.Proofs.YtkhnkockdfmkgaaGreatDoor
namespace Go.Proofs.YtkhnkockdfmkgaaGreatDoor
open Go.RowKit M
set_option linter.unusedVariables false

theorem grown_cell {W W' : World} {N b o : Nat} {v : Value} (hg : W.grownBy W' (some N)) (hb : N < b) (hl : b < W.heap.size) (h : W.cell? ⟨b, o, none⟩ = some v) : W'.cell? ⟨b, o, none⟩ = some v :=
  (World.cell?_of_block (a := ⟨b, o, none⟩) (hg.block b hl (by simp; omega))).trans h
theorem lay4 {W : World} {b : Nat} {x0 x1 x2 x3 : ByteArray} (h0 : W.cell? ⟨b, 0, none⟩ = some (.string x0)) (h1 : W.cell? ⟨b, 1, none⟩ = some (.string x1)) (h2 : W.cell? ⟨b, 2, none⟩ = some (.string x2)) (h3 : W.cell? ⟨b, 3, none⟩ = some (.string x3)) :
    ∀ j, j < 4 → W.cell? ⟨b, j, none⟩ = some (.string ([x0, x1, x2, x3].getD j ByteArray.empty))
  | 0, _ => h0
  | 1, _ => h1
  | 2, _ => h2
  | 3, _ => h3
  | _ + 4, h => absurd h (by omega)
theorem lay3 {W : World} {b : Nat} {x0 x1 x2 : ByteArray} (h0 : W.cell? ⟨b, 0, none⟩ = some (.string x0)) (h1 : W.cell? ⟨b, 1, none⟩ = some (.string x1)) (h2 : W.cell? ⟨b, 2, none⟩ = some (.string x2)) :
    ∀ j, j < 3 → W.cell? ⟨b, j, none⟩ = some (.string ([x0, x1, x2].getD j ByteArray.empty))
  | 0, _ => h0
  | 1, _ => h1
  | 2, _ => h2
  | _ + 3, h => absurd h (by omega)
/-- 'append' of a head, as one step of a region that draws. -/
theorem step_append_head {ops : Array Oper} {o : Oper} {a : Act} {W : World} {K : Act → World → Prop} {Q : Exit → Act → World → Prop} {E : Prop} (hg : o.guard = none) (s x : Operand)
    (ho : o.op = .call { callee := .builtin .append, args := #[s, x], argTypes := #[24, 24] })
    (B g n c : Nat) (l : List Hd) (hs : a.eval s = .slice (some ⟨g, 0, none⟩) n c) (hown : W.ownsRow B 65 2 (.slice (some ⟨g, 0, none⟩) n c) n (hdCells l))
    (N : Nat) (h : Hd) (hx : a.eval x = .slice (some ⟨N, 0, none⟩) 1 1) (hc0 : W.cell? ⟨N, 0, none⟩ = some (.string h.1)) (hc1 : W.cell? ⟨N, 1, none⟩ = some (.string h.2)) (hlen : n + 1 ≤ 1099511627776) (hB : B ≤ W.heap.size)
    (hK : ∀ g' c' w', w'.ownsRow B 65 2 (.slice (some ⟨g', 0, none⟩) (n + 1) c') (n + 1) (hdCells (l ++ [h])) → W.grownBy w' (some g) → K (a.put o.dst (.slice (some ⟨g', 0, none⟩) (n + 1) c')) w') :
    if Region.wanted o (yielded ops a.tmps) = true then Oper.wp Tryz.prog o a W K Q else E := by
  have hw : Region.wanted o (yielded ops a.tmps) = true := by simp [Region.wanted, hg]
  rw [if_pos hw]
  obtain ⟨i0, hi, hz0, hz1, hz2⟩ := info_parts infoHd
  refine wp_append_own W s x 24 ho B 65 i0 _ 2 32 Tryz.underlying24 hi hz0 hz1 hz2 rfl (by decide) _ n _ hs hown ⟨N, 0, none⟩ 1 1 [.string h.1, .string h.2] hx rfl ?_ ?_ ?_ ?_ hB ?_
  · intro j u hj
    have e : ∀ k, (⟨N, 0, none⟩ : Addr).add k = ⟨N, k, none⟩ := fun k => by unfold Addr.add; split <;> simp_all
    rw [e]
    match j, hj with
    | 0, hj => simp at hj; subst hj; exact hc0
    | 1, hj => simp at hj; subst hj; exact hc1
  · intro u hu; simp at hu; rcases hu with rfl | rfl <;> rfl
  · unfold maxLen; omega
  · omega
  · intro v' w' ho' hg' _
    obtain ⟨g', c', rfl⟩ : ∃ g' c', v' = .slice (some ⟨g', 0, none⟩) (n + 1) c' := by
      rcases ho'.2 with ⟨_, h0⟩ | ⟨g, cap, cur, hv, _⟩
      · omega
      · exact ⟨g, cap, hv⟩
    refine hK g' c' w' ?_ hg'
    rw [hdCells_append]
    exact ho'
end Go.Proofs.YtkhnkockdfmkgaaGreatDoor
namespace Go.Proofs.YtkhnkockdfmkgaaGreatDoor
open Go.RowKit M

set_option maxHeartbeats 400000 in
theorem l1Int_any (N M : Nat) (a : Option Addr) (len cap n : Nat) (zs ls : List Int) (c : St) (w : World) (hc : Cur w N (.slice a len cap) c) (hd : CodeAt w a len zs) (hbN : 0 < len → ∀ b off, a = some ⟨b, off, none⟩ → b < N) (hlen : len ≤ 1048576) (hn : 0 < n) (hn2 : n ≤ 256) (hMN : M ≠ N)
    (hls : ∀ j, j < n → w.cell? ⟨M, j, none⟩ = some (.int .i64 (ls.getD j 0))) :
    Calls Tryz.prog 64 #[.pointer (some ⟨N, 0, none⟩), .slice (some ⟨M, 0, none⟩) n n] w fun e w' => e = .returned (.int .i64 (ls.getD (pick zs len c n) 0)) ∧ Cur w' N (.slice a len cap) (belowS len c n) ∧ w.grownBy w' (some N) := by
  have HB : Hid (Calls Tryz.prog 56 #[.pointer (some ⟨N, 0, none⟩), .int .i64 (n : Int)] w fun e w' => e = .returned (.int .i64 (belowV zs len c n)) ∧ Cur w' N (.slice a len cap) (belowS len c n) ∧ w.grownBy w' (some N)) :=
    l1Below_any N a len cap zs c n w hc hd hbN hlen (by omega) (by omega)
  have HL : Hid (∀ j, j < n → w.cell? ⟨M, j, none⟩ = some (.int .i64 (ls.getD j 0))) := hls
  have hp := pick_lt zs len c n hn
  have ep : belowV zs len c n = (pick zs len c n : Int) := by
    have := belowV_bd zs len c n (by omega)
    unfold pick
    omega
  rw [ep] at HB
  clear hbN hc hd hls ep
  generalize pick zs len c n = p at *
  go_enter Tryz.func64, Tryz.ntmps64
  go_wp2_with fail
  refine HB.out.mono ?_
  rintro e w1 ⟨rfl, hc1, hg1⟩
  have hcx : w1.cell? ⟨M, p, none⟩ = some (.int .i64 (ls.getD p 0)) := hg1.cell (HL.out p hp) (by simpa using hMN)
  have HC1 : Hid (Cur w1 N (.slice a len cap) (belowS len c n)) := hc1
  have HG1 : Hid (w.grownBy w1 (some N)) := hg1
  clear hc1 hg1 HL
  go_wp2
  go_ret
  exact ⟨rfl, HC1.out, HG1.out⟩

end Go.Proofs.YtkhnkockdfmkgaaGreatDoor
namespace Go.Proofs.YtkhnkockdfmkgaaGreatDoor
open Go.RowKit M
set_option linter.unusedVariables false

/-- A request of few short parts, in memory of its own. -/
def SmallR (r : Rq) : Prop := FewH 10 r.hs ∧ r.m.size ≤ 20 ∧ r.p.size ≤ 20 ∧ r.b.size ≤ 201
def AnyR (w' : World) (B : Nat) (e : Ending) : Prop := ∃ (r : Rq) (g c : Nat), SmallR r ∧ e = .returned (.agg #[.string r.m, .string r.p, .slice (some ⟨g, 0, none⟩) r.hs.length c, .string r.b]) ∧ w'.ownsRow B 65 2 (.slice (some ⟨g, 0, none⟩) r.hs.length c) r.hs.length (hdCells r.hs)

def anyM : List ByteArray := [⟨#[]⟩, ⟨#[103, 101, 116]⟩, ⟨#[84, 69, 78, 76, 69, 84, 84, 69, 82, 83]⟩, ⟨#[65, 32, 66]⟩]
def anyP : List ByteArray := [⟨#[]⟩, ⟨#[97, 32, 98]⟩, ⟨#[127]⟩]
def anyN : List ByteArray := [⟨#[99, 111, 110, 116, 101, 110, 116, 45, 108, 101, 110, 103, 116, 104]⟩, ⟨#[88]⟩, ⟨#[]⟩, ⟨#[97]⟩]
def anyV : List ByteArray := [⟨#[32, 97]⟩, ⟨#[97]⟩, ⟨#[13, 10]⟩]

/-- A box of a request's four values, which may be written. -/
def RBox (w : World) (M : Nat) (v0 v1 v2 v3 : Value) : Prop := M < w.heap.size ∧ w.cell? ⟨M, 0, none⟩ = some v0 ∧ w.cell? ⟨M, 1, none⟩ = some v1 ∧ w.cell? ⟨M, 2, none⟩ = some v2 ∧ w.cell? ⟨M, 3, none⟩ = some v3 ∧ w.frozen? ⟨M, 0, none⟩ = false ∧ w.frozen? ⟨M, 1, none⟩ = false ∧ w.frozen? ⟨M, 2, none⟩ = false ∧ w.frozen? ⟨M, 3, none⟩ = false
theorem RBox.made (w : World) (v0 v1 v2 v3 : Value) (T : TypeId) : RBox (w.alloc (Obj.cells #[v0, v1, v2, v3] T)) w.heap.size v0 v1 v2 v3 := ⟨by simp, by simp, by simp, by simp, by simp, by simp, by simp, by simp, by simp⟩
theorem RBox.of {w w' : World} {M : Nat} {v0 v1 v2 v3 : Value} (h : RBox w M v0 v1 v2 v3) (hs : w.heap.size ≤ w'.heap.size) (hb : w'.heap[M]? = w.heap[M]?) : RBox w' M v0 v1 v2 v3 := by
  have hc : ∀ o, w'.cell? ⟨M, o, none⟩ = w.cell? ⟨M, o, none⟩ := fun o => World.cell?_of_block (a := ⟨M, o, none⟩) hb
  have hf : ∀ o, w'.frozen? ⟨M, o, none⟩ = w.frozen? ⟨M, o, none⟩ := fun o => World.frozen?_of_block (a := ⟨M, o, none⟩) hb
  obtain ⟨h0, h1, h2, h3, h4, h5, h6, h7, h8⟩ := h
  exact ⟨Nat.lt_of_lt_of_le h0 hs, by rw [hc]; exact h1, by rw [hc]; exact h2, by rw [hc]; exact h3, by rw [hc]; exact h4, by rw [hf]; exact h5, by rw [hf]; exact h6, by rw [hf]; exact h7, by rw [hf]; exact h8⟩
theorem RBox.grown {w w' : World} {M N : Nat} {v0 v1 v2 v3 : Value} (h : RBox w M v0 v1 v2 v3) (hg : w.grownBy w' (some N)) (hN : N < M) : RBox w' M v0 v1 v2 v3 := h.of hg.size (hg.block M h.1 (by simp; omega))
theorem RBox.below {w w' : World} {M C : Nat} {v0 v1 v2 v3 : Value} (h : RBox w M v0 v1 v2 v3) (hb : Below C w w') (hC : M < C) : RBox w' M v0 v1 v2 v3 := h.of hb.size (hb.block M hC)
theorem RBox.set0 {w : World} {M : Nat} {v0 v1 v2 v3 : Value} (h : RBox w M v0 v1 v2 v3) (u : Value) : RBox (w.setCell ⟨M, 0, none⟩ u) M u v1 v2 v3 := by
  obtain ⟨h0, h1, h2, h3, h4, h5, h6, h7, h8⟩ := h
  exact ⟨by simpa using h0, World.cell?_setCell_same _ _ _ h1, (World.cell?_setCell_other _ _ _ _ (by simp)).trans h2, (World.cell?_setCell_other _ _ _ _ (by simp)).trans h3, (World.cell?_setCell_other _ _ _ _ (by simp)).trans h4, by rw [World.frozen?_setCell]; exact h5, by rw [World.frozen?_setCell]; exact h6, by rw [World.frozen?_setCell]; exact h7, by rw [World.frozen?_setCell]; exact h8⟩
theorem RBox.set1 {w : World} {M : Nat} {v0 v1 v2 v3 : Value} (h : RBox w M v0 v1 v2 v3) (u : Value) : RBox (w.setCell ⟨M, 1, none⟩ u) M v0 u v2 v3 := by
  obtain ⟨h0, h1, h2, h3, h4, h5, h6, h7, h8⟩ := h
  exact ⟨by simpa using h0, (World.cell?_setCell_other _ _ _ _ (by simp)).trans h1, World.cell?_setCell_same _ _ _ h2, (World.cell?_setCell_other _ _ _ _ (by simp)).trans h3, (World.cell?_setCell_other _ _ _ _ (by simp)).trans h4, by rw [World.frozen?_setCell]; exact h5, by rw [World.frozen?_setCell]; exact h6, by rw [World.frozen?_setCell]; exact h7, by rw [World.frozen?_setCell]; exact h8⟩
theorem RBox.set2 {w : World} {M : Nat} {v0 v1 v2 v3 : Value} (h : RBox w M v0 v1 v2 v3) (u : Value) : RBox (w.setCell ⟨M, 2, none⟩ u) M v0 v1 u v3 := by
  obtain ⟨h0, h1, h2, h3, h4, h5, h6, h7, h8⟩ := h
  exact ⟨by simpa using h0, (World.cell?_setCell_other _ _ _ _ (by simp)).trans h1, (World.cell?_setCell_other _ _ _ _ (by simp)).trans h2, World.cell?_setCell_same _ _ _ h3, (World.cell?_setCell_other _ _ _ _ (by simp)).trans h4, by rw [World.frozen?_setCell]; exact h5, by rw [World.frozen?_setCell]; exact h6, by rw [World.frozen?_setCell]; exact h7, by rw [World.frozen?_setCell]; exact h8⟩
theorem RBox.set3 {w : World} {M : Nat} {v0 v1 v2 v3 : Value} (h : RBox w M v0 v1 v2 v3) (u : Value) : RBox (w.setCell ⟨M, 3, none⟩ u) M v0 v1 v2 u := by
  obtain ⟨h0, h1, h2, h3, h4, h5, h6, h7, h8⟩ := h
  exact ⟨by simpa using h0, (World.cell?_setCell_other _ _ _ _ (by simp)).trans h1, (World.cell?_setCell_other _ _ _ _ (by simp)).trans h2, (World.cell?_setCell_other _ _ _ _ (by simp)).trans h3, World.cell?_setCell_same _ _ _ h4, by rw [World.frozen?_setCell]; exact h5, by rw [World.frozen?_setCell]; exact h6, by rw [World.frozen?_setCell]; exact h7, by rw [World.frozen?_setCell]; exact h8⟩

/-- All that is known in the course of such a draw: the box of the answer, the box of the request, its heads, the cursor. -/
def ReqT (w : World) (M : Nat) : Prop := ∃ cs fz, w.heap[M]? = some (.cells cs 26 fz)
theorem ReqT.of {w w' : World} {M : Nat} (h : ReqT w M) (hb : w'.heap[M]? = w.heap[M]?) : ReqT w' M := by obtain ⟨cs, fz, e⟩ := h; exact ⟨cs, fz, hb.trans e⟩
theorem ReqT.made (w : World) (cs : Array Value) : ReqT (w.alloc (.cells cs 26)) w.heap.size := ⟨cs, _, heap_alloc_new w _⟩
theorem ReqT.set {w : World} {M : Nat} (h : ReqT w M) (b o : Nat) (u : Value) : ReqT (w.setCell ⟨b, o, none⟩ u) M := by
  by_cases e : b = M
  · subst e
    obtain ⟨cs, fz, e⟩ := h
    rw [setCell_eq_setRow w b o cs _ fz u e]
    exact ⟨_, fz, setRow_heap w b cs _ _ fz e⟩
  · exact h.of (heap_setCell_other w _ M u (fun e' => e e'.symm))
theorem ReqT.other {w : World} {M B g n c : Nat} {xs : List Value} (h : ReqT w M) (ho : w.ownsRow B 65 2 (.slice (some ⟨g, 0, none⟩) n c) n xs) : g ≠ M := by
  rintro rfl
  obtain ⟨cs, fz, e⟩ := h
  rcases ho.2 with ⟨h0, _⟩ | ⟨g', cap', cur, hv, _, hr, _⟩
  · cases h0
  · cases hv
    rw [hr] at e
    injection e with e
    injection e with _ e2
    exact absurd e2 (by decide)

structure Mid (w w1 : World) (N : Nat) (a : Option Addr) (len cap : Nat) (zs : List Int) (M g c : Nat) (r : Rq) : Prop where
  ret : Ret4 w1 w.heap.size
  box : RBox w1 M (.string r.m) (.string r.p) (.slice (some ⟨g, 0, none⟩) r.hs.length c) (.string r.b)
  dx : DX w1 N a len cap zs
  gr : w.grownBy w1 (some N)
  own : w1.ownsRow w.heap.size 65 2 (.slice (some ⟨g, 0, none⟩) r.hs.length c) r.hs.length (hdCells r.hs)
  hN : N < w.heap.size
  hM : w.heap.size < M
  hgM : g ≠ M
  hg0 : g ≠ w.heap.size
  tM : ReqT w1 M
  tR : ReqT w1 w.heap.size

theorem Mid.grown {w w1 w2 : World} {N : Nat} {a : Option Addr} {len cap : Nat} {zs : List Int} {M g c : Nat} {r : Rq} (h : Mid w w1 N a len cap zs M g c r) (hg : w1.grownBy w2 (some N)) (hd : DX w2 N a len cap zs) : Mid w w2 N a len cap zs M g c r :=
  ⟨h.ret.grown hg h.hN, h.box.grown hg (by have := h.hN; have := h.hM; omega), hd, grown_trans h.gr hg, ownsH_grown h.own hg h.hN, h.hN, h.hM, h.hgM, h.hg0, h.tM.of (hg.block M h.box.1 (by simp; have := h.hN; have := h.hM; omega)), h.tR.of (hg.block _ h.ret.1 (by simp; have := h.hN; omega))⟩
theorem Ret4.of {w w' : World} {M : Nat} (h : Ret4 w M) (hs : w.heap.size ≤ w'.heap.size) (hb : w'.heap[M]? = w.heap[M]?) : Ret4 w' M := by
  have hc : ∀ o, w'.cell? ⟨M, o, none⟩ = w.cell? ⟨M, o, none⟩ := fun o => World.cell?_of_block (a := ⟨M, o, none⟩) hb
  have hf : ∀ o, w'.frozen? ⟨M, o, none⟩ = w.frozen? ⟨M, o, none⟩ := fun o => World.frozen?_of_block (a := ⟨M, o, none⟩) hb
  obtain ⟨h0, h1, h2, h3, h4, h5, h6, h7, h8⟩ := h
  exact ⟨Nat.lt_of_lt_of_le h0 hs, by rw [hc]; exact h1, by rw [hc]; exact h2, by rw [hc]; exact h3, by rw [hc]; exact h4, by rw [hf]; exact h5, by rw [hf]; exact h6, by rw [hf]; exact h7, by rw [hf]; exact h8⟩
/-- A store into the request's box. -/
theorem Mid.store {w w1 : World} {N : Nat} {a : Option Addr} {len cap : Nat} {zs : List Int} {M g c g' c' o : Nat} {r r' : Rq} {u : Value} (h : Mid w w1 N a len cap zs M g c r)
    (hb : RBox (w1.setCell ⟨M, o, none⟩ u) M (.string r'.m) (.string r'.p) (.slice (some ⟨g', 0, none⟩) r'.hs.length c') (.string r'.b))
    (ho : (w1.setCell ⟨M, o, none⟩ u).ownsRow w.heap.size 65 2 (.slice (some ⟨g', 0, none⟩) r'.hs.length c') r'.hs.length (hdCells r'.hs)) (hg : g' ≠ M) (hg0 : g' ≠ w.heap.size) : Mid w (w1.setCell ⟨M, o, none⟩ u) N a len cap zs M g' c' r' :=
  ⟨h.ret.of (by simp) (heap_setCell_other _ _ _ _ (by show w.heap.size ≠ M; have := h.hM; omega)), hb, h.dx.set4 (by show N < M; have := h.hN; have := h.hM; omega), grown_past h.gr ((Below.refl _ _).setCell (by show w.heap.size ≤ M; have := h.hM; omega) _), ho, h.hN, h.hM, hg, hg0, h.tM.set _ _ _, h.tR.set _ _ _⟩

theorem Mid.alloc {w w1 : World} {N : Nat} {a : Option Addr} {len cap : Nat} {zs : List Int} {M g c : Nat} {r : Rq} (h : Mid w w1 N a len cap zs M g c r) (o : Obj) : Mid w (w1.alloc o) N a len cap zs M g c r :=
  ⟨h.ret.of (by simp) (((Below.refl w1.heap.size w1).alloc (Nat.le_refl _) o).block _ h.ret.1), h.box.of (by simp) (((Below.refl w1.heap.size w1).alloc (Nat.le_refl _) o).block _ h.box.1), h.dx.alloc o, grown_alloc h.gr o, h.own.alloc o, h.hN, h.hM, h.hgM, h.hg0, h.tM.of (((Below.refl w1.heap.size w1).alloc (Nat.le_refl _) o).block _ h.box.1), h.tR.of (((Below.refl w1.heap.size w1).alloc (Nat.le_refl _) o).block _ h.ret.1)⟩

/-- The end of such a draw. -/
theorem Mid.fin {w w1 : World} {N : Nat} {a : Option Addr} {len cap : Nat} {zs : List Int} {M g c : Nat} {r : Rq} (h : Mid w w1 N a len cap zs M g c r) (hs : SmallR r) (u0 u1 u2 u3 : Value) :
    AnyR ((((w1.setCell ⟨w.heap.size, 0, none⟩ u0).setCell ⟨w.heap.size, 1, none⟩ u1).setCell ⟨w.heap.size, 2, none⟩ u2).setCell ⟨w.heap.size, 3, none⟩ u3) w.heap.size (.returned (.agg #[.string r.m, .string r.p, .slice (some ⟨g, 0, none⟩) r.hs.length c, .string r.b])) ∧ DX ((((w1.setCell ⟨w.heap.size, 0, none⟩ u0).setCell ⟨w.heap.size, 1, none⟩ u1).setCell ⟨w.heap.size, 2, none⟩ u2).setCell ⟨w.heap.size, 3, none⟩ u3) N a len cap zs ∧ w.grownBy ((((w1.setCell ⟨w.heap.size, 0, none⟩ u0).setCell ⟨w.heap.size, 1, none⟩ u1).setCell ⟨w.heap.size, 2, none⟩ u2).setCell ⟨w.heap.size, 3, none⟩ u3) (some N) := by
  have hN := h.hN
  have h0 : (w.heap.size : Nat) ≠ g := fun e => h.hg0 e.symm
  refine ⟨⟨r, g, c, hs, rfl, ?_⟩, ?_, grown_past h.gr (below_sets (Nat.le_refl _) _ _ _ _)⟩
  · exact ownsH_set (ownsH_set (ownsH_set (ownsH_set h.own h0) h0) h0) h0
  · exact (((h.dx.set4 hN).set4 hN).set4 hN).set4 hN

theorem info_u8d : (Tryz.prog.info? 5).map (fun i => (i.zero, i.size, i.bytes)) = some (some (.int .u8 0), 1, 1) := by kernel_rfl
/-- 'string(make([]byte, n))': some text of that length. -/
theorem conv_zeros (w : World) (n : Nat) : ∃ x : ByteArray, x.size = n ∧ (convert 22 9 (.slice (some ⟨w.heap.size, 0, none⟩) n n)).run Tryz.prog (w.alloc (.cells (madeCells #[.int .u8 0] n) 5)) = .ok (.string x) (w.alloc (.cells (madeCells #[.int .u8 0] n) 5)) := by
  refine ⟨⟨(List.replicate n 0).toArray⟩, by show (List.replicate n (0 : UInt8)).toArray.size = n; simp, ?_⟩
  have h := run_convert_bytes_back (P := Tryz.prog) (w.alloc (.cells (madeCells #[.int .u8 0] n) 5)) 22 9 5 ⟨w.heap.size, 0, none⟩ n (List.replicate n 0) Tryz.underlying22 Tryz.underlying5 Tryz.underlying9 (by
    intro j hj
    have hj' : j < n := by simpa using hj
    have e : (⟨w.heap.size, 0, none⟩ : Addr).add j = ⟨w.heap.size, j, none⟩ := by unfold Addr.add; split <;> simp_all
    rw [e, (World.rowIs_made w (.int .u8 0) n 5).cell hj']
    simp)
  rw [List.length_replicate] at h
  exact h

theorem Mid.drew {w w1 : World} {N : Nat} {a : Option Addr} {len cap : Nat} {zs : List Int} {M g c : Nat} {r : Rq} (h : Mid w w1 N a len cap zs M g c r) : Mid w w1.drew N a len cap zs M g c r :=
  ⟨h.ret, h.box, h.dx.other (Nat.le_refl _) (fun _ _ => rfl), ⟨h.gr.os, h.gr.tape, h.gr.output, h.gr.size, h.gr.block⟩, h.own, h.hN, h.hM, h.hgM, h.hg0, h.tM, h.tR⟩

theorem Mid.str {w W : World} {N : Nat} {a : Option Addr} {len cap : Nat} {zs : List Int} {M g c : Nat} {r : Rq} (h : Mid w W N a len cap zs M g c r) (ss : List ByteArray) (n b : Nat) (hb : N < b) (h0 : 0 < n) (h1 : n ≤ 256) (hz : ∀ s ∈ ss, s.size ≤ 20)
    (hls : ∀ j, j < n → W.cell? ⟨b, j, none⟩ = some (.string (ss.getD j ByteArray.empty))) :
    Calls Tryz.prog 58 #[.pointer (some ⟨N, 0, none⟩), .slice (some ⟨b, 0, none⟩) n n] W fun e w' => (∃ s : ByteArray, e = .returned (.string s) ∧ s.size ≤ 20) ∧ Mid w w' N a len cap zs M g c r ∧ W.grownBy w' (some N) := by
  obtain ⟨cu, hd⟩ := h.dx
  refine (l1Str_any N b a len cap n zs ss cu W hd.cur hd.code hd.bN hd.hlen h0 h1 (by omega) hls).mono ?_
  rintro e w1 ⟨rfl, hc1, hg1⟩
  exact ⟨⟨_, rfl, getD_mem ss _ _ (fun s => s.size ≤ 20) hz (by decide)⟩, h.grown hg1 ⟨_, hd.grown hg1 hc1⟩, hg1⟩

theorem ints3 {W : World} {b : Nat} {x0 x1 x2 : Int} (h0 : W.cell? ⟨b, 0, none⟩ = some (.int .i64 x0)) (h1 : W.cell? ⟨b, 1, none⟩ = some (.int .i64 x1)) (h2 : W.cell? ⟨b, 2, none⟩ = some (.int .i64 x2)) :
    ∀ j, j < 3 → W.cell? ⟨b, j, none⟩ = some (.int .i64 ([x0, x1, x2].getD j 0))
  | 0, _ => h0
  | 1, _ => h1
  | 2, _ => h2
  | _ + 3, h => absurd h (by omega)
theorem Mid.int {w W : World} {N : Nat} {a : Option Addr} {len cap : Nat} {zs : List Int} {M g c : Nat} {r : Rq} (h : Mid w W N a len cap zs M g c r) (ls : List Int) (n b : Nat) (hb : N < b) (h0 : 0 < n) (h1 : n ≤ 256) (hz : ∀ s ∈ ls, 0 ≤ s ∧ s ≤ 60)
    (hls : ∀ j, j < n → W.cell? ⟨b, j, none⟩ = some (.int .i64 (ls.getD j 0))) :
    Calls Tryz.prog 64 #[.pointer (some ⟨N, 0, none⟩), .slice (some ⟨b, 0, none⟩) n n] W fun e w' => (∃ k : Nat, e = .returned (.int .i64 k) ∧ k ≤ 60) ∧ Mid w w' N a len cap zs M g c r ∧ W.grownBy w' (some N) := by
  obtain ⟨cu, hd⟩ := h.dx
  refine (l1Int_any N b a len cap n zs ls cu W hd.cur hd.code hd.bN hd.hlen h0 h1 (by omega) hls).mono ?_
  rintro e w1 ⟨rfl, hc1, hg1⟩
  have hq : 0 ≤ ls.getD (pick zs len cu n) 0 ∧ ls.getD (pick zs len cu n) 0 ≤ 60 := getD_mem ls _ _ (fun s => 0 ≤ s ∧ s ≤ 60) hz (by decide)
  exact ⟨⟨(ls.getD (pick zs len cu n) 0).toNat, by rw [Int.toNat_of_nonneg hq.1], by omega⟩, h.grown hg1 ⟨_, hd.grown hg1 hc1⟩, hg1⟩
theorem Mid.less {w W : World} {N : Nat} {a : Option Addr} {len cap : Nat} {zs : List Int} {M g c : Nat} {r : Rq} (h : Mid w W N a len cap zs M g c r) (n : Int) (hn : 0 < n) (hn2 : n ≤ 1000000) :
    Calls Tryz.prog 56 #[.pointer (some ⟨N, 0, none⟩), .int .i64 n] W fun e w' => (∃ k : Nat, e = .returned (.int .i64 k) ∧ (k : Int) < n) ∧ Mid w w' N a len cap zs M g c r := by
  refine (l1BelowX h.dx n hn hn2).mono ?_
  rintro e w1 ⟨hk, hd, hg⟩
  exact ⟨hk, h.grown hg hd⟩

/-- One head more. -/
theorem Mid.pushed {w W w5 : World} {N : Nat} {a : Option Addr} {len cap : Nat} {zs : List Int} {M g c g' c' : Nat} {r : Rq} {h : Hd} (hm : Mid w W N a len cap zs M g c r)
    (ho : w5.ownsRow w.heap.size 65 2 (.slice (some ⟨g', 0, none⟩) (r.hs.length + 1) c') (r.hs.length + 1) (hdCells (r.hs ++ [h]))) (hg : W.grownBy w5 (some g)) :
    Mid w (w5.setCell ⟨M, 2, none⟩ (.slice (some ⟨g', 0, none⟩) (r.hs.length + 1) c')) N a len cap zs M g' c' ⟨r.m, r.p, r.hs ++ [h], r.b⟩ ∧ RBox w5 M (.string r.m) (.string r.p) (.slice (some ⟨g, 0, none⟩) r.hs.length c) (.string r.b) ∧ Ret4 w5 w.heap.size := by
  have hNM : N < M := Nat.lt_trans hm.hN hm.hM
  have hbM := hg.block M hm.box.1 (by simp; exact fun e => hm.hgM e.symm)
  have hbR := hg.block w.heap.size hm.ret.1 (by simp; exact fun e => hm.hg0 e.symm)
  have box5 := hm.box.of hg.size hbM
  have ret5 := hm.ret.of hg.size hbR
  have tM5 := hm.tM.of hbM
  have tR5 := hm.tR.of hbR
  have hgl := hm.own.lt g rfl
  have hgM' := tM5.other ho
  have hgR' := tR5.other ho
  have hMR : w.heap.size ≠ M := by have := hm.hM; omega
  have hlen : (r.hs ++ [h]).length = r.hs.length + 1 := by simp
  have dx5 : DX w5 N a len cap zs := hm.dx.other hg.size (fun k hk => hg.block k (by have := hm.dx.lt; omega) (by simp; have := hm.hN; omega))
  have bel : Below w.heap.size W w5 := ⟨hg.os, hg.tape, hg.output, hg.size, fun k hk => hg.block k (Nat.lt_of_lt_of_le hk hm.gr.size) (by simp; omega)⟩
  refine ⟨⟨ret5.of (by simp) (heap_setCell_other _ _ _ _ hMR), ?_, dx5.set4 hNM, grown_past hm.gr (bel.trans ((Below.refl _ _).setCell (by show w.heap.size ≤ M; have := hm.hM; omega) _)), ?_, hm.hN, hm.hM, hgM', hgR', tM5.set _ _ _, tR5.set _ _ _⟩, box5, ret5⟩
  · show RBox _ M (.string r.m) (.string r.p) (.slice (some ⟨g', 0, none⟩) (r.hs ++ [h]).length c') (.string r.b)
    rw [hlen]
    exact box5.set2 _
  · show (w5.setCell _ _).ownsRow w.heap.size 65 2 (.slice (some ⟨g', 0, none⟩) (r.hs ++ [h]).length c') (r.hs ++ [h]).length (hdCells (r.hs ++ [h]))
    rw [hlen]
    exact ownsH_set ho (fun e => hgM' e.symm)
end Go.Proofs.YtkhnkockdfmkgaaGreatDoor
namespace Go.Proofs.YtkhnkockdfmkgaaGreatDoor
open Go.RowKit M
set_option linter.unusedVariables false

set_option maxRecDepth 100000 in
set_option maxHeartbeats 4000000 in
theorem l3Any_any {w : World} {N : Nat} {a : Option Addr} {len cap : Nat} {zs : List Int} (h : DX w N a len cap zs) :
    Calls Tryz.prog 39 #[.pointer (some ⟨N, 0, none⟩)] w fun e w' => AnyR w' w.heap.size e ∧ DX w' N a len cap zs ∧ w.grownBy w' (some N) := by
  have hlt := h.lt
  have H : Hid (DX w N a len cap zs) := h
  clear h
  go_enter Tryz.func39, Tryz.ntmps39
  go_wp2_with fail
  refine (l3Draw_any (w := w.alloc (Obj.cells #[Value.string { data := #[] }, Value.string { data := #[] }, Value.slice none 0 0, Value.string { data := #[] }] 26)) (H.out.alloc _)).mono ?_
  rintro e w1 ⟨⟨r, g, c, q1, q2, q3, q4, rfl, hown⟩, hd1, hg1⟩
  have hz1 : w.heap.size < w1.heap.size := by have := hg1.size; simp at this; omega
  have hgl := hown.lt g rfl
  have hgl1 : w.heap.size < g := by have := hgl.1; simp at this; omega
  have hM : Mid w (w1.alloc (Obj.cells #[Value.string r.m, Value.string r.p, Value.slice (some ⟨g, 0, none⟩) r.hs.length c, Value.string r.b] 26)) N a len cap zs w1.heap.size g c r :=
    ⟨((Ret4.made w 26).grown hg1 hlt).of (by simp) (((Below.refl w1.heap.size w1).alloc (Nat.le_refl _) _).block _ hz1), RBox.made w1 _ _ _ _ _, hd1.alloc _, grown_alloc (grown_trans (grown_alloc (grown_refl _ _) _) hg1) _, ownsH_base (hown.alloc _) (by simp), hlt, hz1, by have := hgl.2; omega, by omega, ReqT.made w1 _, ((ReqT.made w _).of (hg1.block _ (by simp) (by simp; omega))).of (((Below.refl w1.heap.size w1).alloc (Nat.le_refl _) _).block _ hz1)⟩
  have HM := hide hM
  have hrl := q1.1
  have HQ := hide q1
  clear hM hown hd1 hg1 hgl q1
  go_wp2_with fail
  refine (l1BelowX HM.out.dx 12 (by decide) (by decide)).mono ?_
  rintro e w2 ⟨⟨k, rfl, hk⟩, hd2, hg2⟩
  have hm2 := HM.out.grown hg2 hd2
  have HM2 := hide hm2
  clear hm2 hd2 hg2 HM
  by_cases k0 : k = 0
  · subst k0
    go_wp2_with fail
    refine (strNewX HM2.out.dx anyM _ _ 4 _ rfl rfl rfl (by decide) (by decide) (by decide)).mono ?_
    rintro e w3 ⟨⟨x, rfl, hx⟩, hd3, hg3⟩
    have hm3 := HM2.out.grown hg3 hd3
    clear hd3 hg3
    have hm4 := hm3.store (r' := ⟨x, r.p, r.hs, r.b⟩) (hm3.box.set0 (.string x)) (ownsH_set hm3.own (fun e => hm3.hgM e.symm)) hm3.hgM hm3.hg0
    have HM4 := hide hm4
    have hne : ¬ w.heap.size = w1.heap.size := by omega
    have hne' : ¬ w1.heap.size = w.heap.size := by omega
    obtain ⟨_, y0, y1, y2, y3, f0, f1, f2, f3⟩ := hm3.box
    obtain ⟨_, ⟨t0, z0⟩, ⟨t1, z1⟩, ⟨t2, z2⟩, ⟨t3, z3⟩, e0, e1, e2, e3⟩ := hm3.ret
    clear hm3 hm4
    go_wp2
    refine bodyPost_ret (v := .agg #[.string x, .string r.p, .slice (some ⟨g, 0, none⟩) r.hs.length c, .string r.b]) (by simp [results, Tryz.results39, go_sem, z0, z1, z2, z3]) rfl ?_
    exact HM4.out.fin ⟨HQ.out.mono (by decide), by show x.size ≤ 20; omega, q3, by show r.b.size ≤ 201; omega⟩ _ _ _ _
  · have k0' : ((k : Int) == 0) = false := by apply beq_eq_false_iff_ne.2; omega
    by_cases k1 : k = 1
    · subst k1
      go_wp2_with fail
      refine (strNewX HM2.out.dx anyP _ _ 3 _ rfl rfl rfl (by decide) (by decide) (by decide)).mono ?_
      rintro e w3 ⟨⟨x, rfl, hx⟩, hd3, hg3⟩
      have hm3 := HM2.out.grown hg3 hd3
      clear hd3 hg3
      have hm4 := hm3.store (r' := ⟨r.m, x, r.hs, r.b⟩) (hm3.box.set1 (.string x)) (ownsH_set hm3.own (fun e => hm3.hgM e.symm)) hm3.hgM hm3.hg0
      have HM4 := hide hm4
      have hne : ¬ w.heap.size = w1.heap.size := by omega
      have hne' : ¬ w1.heap.size = w.heap.size := by omega
      obtain ⟨_, y0, y1, y2, y3, f0, f1, f2, f3⟩ := hm3.box
      obtain ⟨_, ⟨t0, z0⟩, ⟨t1, z1⟩, ⟨t2, z2⟩, ⟨t3, z3⟩, e0, e1, e2, e3⟩ := hm3.ret
      clear hm3 hm4
      go_wp2
      refine bodyPost_ret (v := .agg #[.string r.m, .string x, .slice (some ⟨g, 0, none⟩) r.hs.length c, .string r.b]) (by simp [results, Tryz.results39, go_sem, z0, z1, z2, z3]) rfl ?_
      exact HM4.out.fin ⟨HQ.out.mono (by decide), q2, by show x.size ≤ 20; omega, by show r.b.size ≤ 201; omega⟩ _ _ _ _
    · have k1' : ((k : Int) == 1) = false := by apply beq_eq_false_iff_ne.2; omega
      by_cases k2 : k = 2
      · subst k2
        have HMd := hide HM2.out.drew
        have hMl := HM2.out.box.1
        have hNl : N < w2.heap.size := HM2.out.dx.lt
        have y20 := HM2.out.box.2.2.2.1
        have hn0 : ¬ w1.heap.size = w2.heap.size := by omega
        have hn1 : ¬ w1.heap.size = w2.heap.size + 1 := by omega
        go_wp2_with fail
        go_region_law (first
          | (refine step_append_head rfl _ _ rfl w.heap.size g r.hs.length c r.hs rfl (MB.out.alloc _).own wB.heap.size (x, y) rfl (by simp) (by simp) (by omega) (by have := MB.out.gr.size; simp; omega) ?_
             intro g5 c5 w5 o5 gr5
             obtain ⟨m5, bx5, rt5⟩ := (MB.out.alloc _).pushed o5 gr5
             have M5 := hide m5
             have RT5 := hide rt5
             have BX5 := hide bx5
             obtain ⟨_, y50, y51, y52, y53, f50, f51, f52, f53⟩ := bx5
             clear m5 rt5)
          | (go_simp
             first
             | (go_at_call_of 58 (4 : Nat)
                refine (Mid.str (by first | exact (HM2.out.alloc _).drew | exact ((HM2.out.alloc _).alloc _).drew) anyN 4 _ (by first | omega | (simp; omega)) (by decide) (by decide) (by decide) (lay4 (by simp) (by simp) (by simp) (by simp))).mono ?_
                rintro e wA ⟨⟨x, rfl, hx⟩, mA, gA⟩
                have hMA := mA.box.1
                have yA := mA.box.2.2.2.1
                have hnA0 : ¬ w1.heap.size = wA.heap.size := by omega
                have hnA1 : ¬ w1.heap.size = wA.heap.size + 1 := by omega
                have MA := hide mA
                have GA := hide gA
                clear mA gA)
             | (go_at_call_of 58 (3 : Nat)
                refine (Mid.str (by first | exact MA.out | exact MA.out.alloc _) anyV 3 _ (by first | omega | (simp; omega)) (by decide) (by decide) (by decide) (lay3 (by first | (simp; done) | exact grown_cell GA.out (by omega) (by first | (simp; done) | (simp; omega)) (by simp; done)) (by first | (simp; done) | exact grown_cell GA.out (by omega) (by first | (simp; done) | (simp; omega)) (by simp; done)) (by first | (simp; done) | exact grown_cell GA.out (by omega) (by first | (simp; done) | (simp; omega)) (by simp; done)))).mono ?_
                rintro e wB ⟨⟨y, rfl, hy⟩, mB, gB⟩
                have hMB := mB.box.1
                have yB := mB.box.2.2.2.1
                have hnB0 : ¬ w1.heap.size = wB.heap.size := by omega
                have MB := hide mB
                clear mB gB)))
        all_goals
          have hne : ¬ w.heap.size = w1.heap.size := by omega
          have hne' : ¬ w1.heap.size = w.heap.size := by omega
          obtain ⟨_, ⟨t0, z0⟩, ⟨t1, z1⟩, ⟨t2, z2⟩, ⟨t3, z3⟩, e0, e1, e2, e3⟩ := RT5.out
          go_wp2
          refine bodyPost_ret (v := .agg #[.string r.m, .string r.p, .slice (some ⟨g5, 0, none⟩) (r.hs.length + 1) c5, .string r.b]) (by simp [results, Tryz.results39, go_sem, z0, z1, z2, z3]) rfl ?_
          have hf := fun u0 u1 u2 u3 => M5.out.fin ⟨(HQ.out.snoc (h := (x, y)) (by show x.size ≤ 60; omega) (by show y.size ≤ 60; omega)).mono (by decide), q2, q3, by show r.b.size ≤ 201; omega⟩ u0 u1 u2 u3
          simp only [List.length_append, List.length_cons, List.length_nil, Nat.zero_add] at hf
          exact hf _ _ _ _
      · have k2' : ((k : Int) == 2) = false := by apply beq_eq_false_iff_ne.2; omega
        by_cases k3 : k = 3
        · subst k3
          go_wp2_with fail
          refine (l1BelowX HM2.out.dx 2 (by decide) (by decide)).mono ?_
          rintro e w3 ⟨⟨q, rfl, hq⟩, hd3, hg3⟩
          have hm3 := HM2.out.grown hg3 hd3
          have HM3 := hide hm3
          clear hd3 hg3
          obtain ⟨n, hn⟩ : ∃ n : Nat, n = 200 + q := ⟨_, rfl⟩
          have hn' : ((200 : Int) + (q : Int)) = ((n : Nat) : Int) := by omega
          have hnb : n ≤ 201 := by omega
          have hw : IntKind.i64.wrap (200 + (q : Int)) = (n : Int) := by rw [IntKind.wrap_i64]; omega
          have HN := hide hn
          clear hn hn'
          have hmk := run_make_row' (P := Tryz.prog) 22 5 (.int .u8 0) 1 Tryz.underlying22 info_u8d rfl .i64 .i64 n (by omega) (by omega) w3
          obtain ⟨x, hxz, hcv⟩ := conv_zeros w3 n
          have hm3' := HM3.out.alloc (.cells (madeCells #[.int .u8 0] n) 5)
          obtain ⟨w4, hw4⟩ : ∃ w4, w3.alloc (.cells (madeCells #[.int .u8 0] n) 5) = w4 := ⟨_, rfl⟩
          rw [hw4] at hm3' hcv hmk
          have hxz' : x.size ≤ 201 := by omega
          have HZ := hide hxz
          clear hxz
          have hm4 := hm3'.store (r' := ⟨r.m, r.p, r.hs, x⟩) (hm3'.box.set3 (.string x)) (ownsH_set hm3'.own (fun e => hm3'.hgM e.symm)) hm3'.hgM hm3'.hg0
          have HM4 := hide hm4
          have hne : ¬ w.heap.size = w1.heap.size := by omega
          have hne' : ¬ w1.heap.size = w.heap.size := by omega
          obtain ⟨_, y0, y1, y2, y3, f0, f1, f2, f3⟩ := hm3'.box
          obtain ⟨_, ⟨t0, z0⟩, ⟨t1, z1⟩, ⟨t2, z2⟩, ⟨t3, z3⟩, e0, e1, e2, e3⟩ := hm3'.ret
          clear hm3' hm4 hm3
          go_wp2
          refine bodyPost_ret (v := .agg #[.string r.m, .string r.p, .slice (some ⟨g, 0, none⟩) r.hs.length c, .string x]) (by simp [results, Tryz.results39, go_sem, z0, z1, z2, z3]) rfl ?_
          exact HM4.out.fin ⟨HQ.out.mono (by decide), q2, q3, hxz'⟩ _ _ _ _
        · have k3' : ((k : Int) == 3) = false := by apply beq_eq_false_iff_ne.2; omega
          by_cases k4 : k = 4
          · subst k4
            have HQ9 : Hid (FewH 9 r.hs) := HQ.out.mono (by decide)
            clear hk k0 k0' k1 k1' k2 k2' k3 k3' hrl hgl1
            go_wp2_with fail
            go_loopw [] (fun wr => ∃ (hs : List Hd) (g' c' : Nat), FewH 9 hs ∧ Mid w wr N a len cap zs w1.heap.size g' c' ⟨r.m, r.p, hs, r.b⟩) (fun wr => match wr.cell? ⟨w1.heap.size, 2, none⟩ with | some (.slice _ n _) => 10 - n | _ => 0)
            case atStart => exact ⟨r.hs, g, c, HQ9.out, HM2.out⟩
            case round =>
              obtain ⟨hs, g', c', hf, hm⟩ := hrel
              have HMr := hide hm
              have HF := hide hf
              have hl9 := hf.1
              have yr := hm.box.2.2.2.1
              have yr' : wr.cell? ⟨w1.heap.size, 2, none⟩ = some (.slice (some ⟨g', 0, none⟩) hs.length c') := yr
              clear hm hf yr
              go_wp2_with fail
              go_region_law (
                go_simp
                go_at_call 56
                refine (HMr.out.drew.less 2 (by decide) (by decide)).mono ?_
                rintro e w3 ⟨⟨q, rfl, hq⟩, m3⟩
                have y3 : w3.cell? ⟨w1.heap.size, 2, none⟩ = some (.slice (some ⟨g', 0, none⟩) hs.length c') := m3.box.2.2.2.1
                have hw : IntKind.i64.wrap (8 + (q : Int)) = 8 + q := by rw [IntKind.wrap_i64]; omega
                have M3 := hide m3
                clear m3)
              all_goals
                by_cases hc : (hs.length : Int) < 8 + q
                · have hMl3 := M3.out.box.1
                  have hNl3 : N < w3.heap.size := M3.out.dx.lt
                  have hn0 : ¬ w1.heap.size = w3.heap.size := by omega
                  have hn1 : ¬ w1.heap.size = w3.heap.size + 1 := by omega
                  go_wp2_with fail
                  go_region_law (first
                    | (refine step_append_head rfl _ _ rfl w.heap.size g' hs.length c' hs rfl (MA.out.alloc _).own wA.heap.size (_, _) rfl (by simp; rfl) (by simp; rfl) (by omega) (by have := MA.out.gr.size; simp; omega) ?_
                       intro g5 c5 w5 o5 gr5
                       obtain ⟨m5, bx5, rt5⟩ := (MA.out.alloc _).pushed o5 gr5
                       have M5 := hide m5
                       have RT5 := hide rt5
                       have BX5 := hide bx5
                       obtain ⟨_, y50, y51, y52, y53, f50, f51, f52, f53⟩ := bx5
                       clear m5 rt5)
                    | (go_simp
                       go_at_call 64
                       refine (Mid.int (by exact (M3.out.alloc _).drew) [0, 9, 60] 3 _ (by first | omega | (simp; omega)) (by decide) (by decide) (by decide) (ints3 (by simp) (by simp) (by simp))).mono ?_
                       rintro e wA ⟨⟨x, rfl, hx⟩, mA, gA⟩
                       have hMA := mA.box.1
                       have yA : wA.cell? ⟨w1.heap.size, 2, none⟩ = some (.slice (some ⟨g', 0, none⟩) hs.length c') := mA.box.2.2.2.1
                       have hnA0 : ¬ w1.heap.size = wA.heap.size := by omega
                       have hx0 : (0 : Int) ≤ x := by omega
                       have hx6 : (x : Int) ≤ 60 := by omega
                       have MA := hide mA
                       clear mA gA))
                  all_goals
                    have HF8 : Hid (FewH 8 hs) := ⟨by omega, HF.out.2⟩
                    have hcell := World.cell?_setCell_same w5 ⟨w1.heap.size, 2, none⟩ (.slice (some ⟨g5, 0, none⟩) (hs.length + 1) c5) y52
                    go_wp2
                    go_roundw
                    case rel => exact ⟨_, g5, c5, HF8.out.snoc (show (⟨#[120]⟩ : ByteArray).size ≤ 60 by decide) (by simp [ByteArray.size_extract]; omega), M5.out⟩
                    case measure => rw [hcell, yr']; show 10 - (hs.length + 1) < 10 - hs.length; omega
                · have hlen9 : hs.length ≤ 10 := by omega
                  have hne : ¬ w.heap.size = w1.heap.size := by omega
                  have hne' : ¬ w1.heap.size = w.heap.size := by omega
                  obtain ⟨_, y0, y1, y2, y3, f0, f1, f2, f3⟩ := M3.out.box
                  obtain ⟨_, ⟨t0, z0⟩, ⟨t1, z1⟩, ⟨t2, z2⟩, ⟨t3, z3⟩, e0, e1, e2, e3⟩ := M3.out.ret
                  simp only at y0 y1 y2 y3
                  go_wp2
                  refine bodyPost_ret (v := .agg #[.string r.m, .string r.p, .slice (some ⟨g', 0, none⟩) hs.length c', .string r.b]) (by simp [results, Tryz.results39, go_sem, z0, z1, z2, z3]) rfl ?_
                  exact M3.out.fin ⟨HF.out.mono (by decide), q2, q3, by show r.b.size ≤ 201; omega⟩ _ _ _ _
          · have k4' : ((k : Int) == 4) = false := by apply beq_eq_false_iff_ne.2; omega
            have HM4 := HM2
            have hm3 := HM2.out
            have hne : ¬ w.heap.size = w1.heap.size := by omega
            have hne' : ¬ w1.heap.size = w.heap.size := by omega
            obtain ⟨_, y0, y1, y2, y3, f0, f1, f2, f3⟩ := hm3.box
            obtain ⟨_, ⟨t0, z0⟩, ⟨t1, z1⟩, ⟨t2, z2⟩, ⟨t3, z3⟩, e0, e1, e2, e3⟩ := hm3.ret
            clear hm3
            go_wp2
            refine bodyPost_ret (v := .agg #[.string r.m, .string r.p, .slice (some ⟨g, 0, none⟩) r.hs.length c, .string r.b]) (by simp [results, Tryz.results39, go_sem, z0, z1, z2, z3]) rfl ?_
            exact HM4.out.fin ⟨HQ.out.mono (by decide), q2, q3, by show r.b.size ≤ 201; omega⟩ _ _ _ _
end Go.Proofs.YtkhnkockdfmkgaaGreatDoor
