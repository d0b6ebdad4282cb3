/-
  The numbers that a draw mixes: no program in sight but the model's own wraps and bits.
  The cursor over the bytes of a draw: what each call does to it.
  A new cursor; what is picked of a list.
  Texts that are drawn.
  The bytes of a draw, and a new cursor on them.
  A cursor, wherever it stands: what is drawn by it, and that all else stays.
  What spec.l1Once does.
  What stands in a walk's context and is not to be used by it.
  Steps of draws: a text, a coin; what is stored besides leaves the cursor.
  Rows of bytes that the call itself made: what string(b) gives of one; where the walk wants it.
  Plain facts on bytes, their kinds, and texts of them: no program in sight.
  Plain facts on numbers' digits: no program in sight.
-/
import Derived.Laws.BitsLemmas
import Derived.Laws.Wrap64
import Derived.WalkKit
import Derived.Test.YtmgikfeknmbpbaaGreatDoorRows
import Derived.WalkSpells
import Derived.WalkLawsBesides
import Derived.Deep.Light
import Derived.Deep.QuietTactic
import Derived.BigQuiet
import Derived.Below
import Derived.Lib.BufferWrite
import Derived.Laws.IdiomStrings
import Derived.Laws.BytesArg
import Derived.Lib.ItoaNum
namespace Go.Proofs.YtmgikfeknmbpbaaGreatDoor.M
open Go Go.RowKit

theorem i64_and255 (n : Int) : bits .and .i64 n 255 = n % 256 := by
  have h8 : (BitVec.ofInt 64 255).toNat = 2 ^ 8 - 1 := by decide
  have key : (BitVec.ofInt 64 n &&& BitVec.ofInt 64 255).toNat = (n % ((2 ^ 64 : Nat) : Int)).toNat % 2 ^ 8 := by
    rw [BitVec.toNat_and, BitVec.toNat_ofInt, h8, Nat.and_two_pow_sub_one_eq_mod]
  show IntKind.i64.wrap ((BitVec.ofInt 64 n &&& BitVec.ofInt 64 255).toNat : Nat) = n % 256
  rw [key, IntKind.wrap_i64]
  omega

theorem i64_and30 (n : Int) : bits .and .i64 n 1073741823 = n % 1073741824 := by
  have h30 : (BitVec.ofInt 64 1073741823).toNat = 2 ^ 30 - 1 := by decide
  have key : (BitVec.ofInt 64 n &&& BitVec.ofInt 64 1073741823).toNat = (n % ((2 ^ 64 : Nat) : Int)).toNat % 2 ^ 30 := by
    rw [BitVec.toNat_and, BitVec.toNat_ofInt, h30, Nat.and_two_pow_sub_one_eq_mod]
  show IntKind.i64.wrap ((BitVec.ofInt 64 n &&& BitVec.ofInt 64 1073741823).toNat : Nat) = n % 1073741824
  rw [key, IntKind.wrap_i64]
  omega

/-- The next number mixed. -/
def hNext (h : Int) : Int := wrap64 (wrap64 (h * 6364136223846793005) + 1442695040888963407)
/-- The byte that follows from it. -/
def xMix (h : Int) : Int := bits .xor .i64 (hNext h / 8589934592) (hNext h / 140737488355328) % 256
theorem xMix_bd (h : Int) : 0 ≤ xMix h ∧ xMix h ≤ 255 := by unfold xMix; omega

/-- What a draw's byte is, of the bytes zs (the first len of them), the place and the number mixed; and the place behind it. -/
def xByte (zs : List Int) (len : Nat) (i : Nat) (h : Int) : Int := if i < len then (xMix h + zs.getD i 0) % 256 else xMix h
def iNext (len i : Nat) : Nat := if i < len then i + 1 else i
theorem xByte_bd (zs : List Int) (len i : Nat) (h : Int) : 0 ≤ xByte zs len i h ∧ xByte zs len i h ≤ 255 := by
  have := xMix_bd h
  unfold xByte
  split <;> omega
theorem iNext_le {len i : Nat} (h : i ≤ len) : iNext len i ≤ len := by unfold iNext; split <;> omega

/-- The cursor's state: the place and the number mixed. -/
structure St where
  i : Nat
  h : Int

def next (len : Nat) (c : St) : St := ⟨iNext len c.i, hNext c.h⟩

/-- What l1Below draws (n above 0), and the state behind it. -/
def belowV (zs : List Int) (len : Nat) (c : St) (n : Int) : Int :=
  if n ≤ 256 then xByte zs len c.i c.h % n
  else (xByte zs len c.i c.h * 65536 + xByte zs len (next len c).i (next len c).h * 256 + xByte zs len (next len (next len c)).i (next len (next len c)).h) % n
def belowS (len : Nat) (c : St) (n : Int) : St := if n ≤ 256 then next len c else next len (next len (next len c))

theorem belowV_bd (zs : List Int) (len : Nat) (c : St) (n : Int) (hn : 0 < n) : 0 ≤ belowV zs len c n ∧ belowV zs len c n < n := by
  unfold belowV
  split
  · exact ⟨Int.emod_nonneg _ (by omega), Int.emod_lt_of_pos _ hn⟩
  · exact ⟨Int.emod_nonneg _ (by omega), Int.emod_lt_of_pos _ hn⟩

theorem next_le {len : Nat} {c : St} (h : c.i ≤ len) : (next len c).i ≤ len := iNext_le h
theorem belowS_le {len : Nat} {c : St} {n : Int} (h : c.i ≤ len) : (belowS len c n).i ≤ len := by
  unfold belowS
  split
  · exact next_le h
  · exact next_le (next_le (next_le h))

/-- The first state. -/
def mixF (h : Int) (l : List Int) : Int := l.foldl (fun h z => (h * 137 + z + 11) % 1073741824) h
def newS (zs : List Int) (len : Nat) : St := ⟨0, mixF (774774 + (len : Int)) ((zs.take len).take 4000)⟩

theorem mixF_snoc (h : Int) (l : List Int) (z : Int) : mixF h (l ++ [z]) = (mixF h l * 137 + z + 11) % 1073741824 := by simp [mixF]
theorem mixF_bd (h : Int) (l : List Int) (h0 : 0 ≤ h) (h1 : h < 1073741824) : 0 ≤ mixF h l ∧ mixF h l < 1073741824 := by
  induction l generalizing h with
  | nil => exact ⟨h0, h1⟩
  | cons z r ih => exact ih _ (Int.emod_nonneg _ (by omega)) (Int.emod_lt_of_pos _ (by omega))
theorem take_snocZ (zs : List Int) (k : Nat) (h : k < zs.length) : zs.take (k + 1) = zs.take k ++ [zs.getD k 0] := by
  rw [List.take_succ_eq_append_getElem h]
  simp [List.getD_eq_getElem?_getD, List.getElem?_eq_getElem h]

/-- What l1Int and l1Str pick of a list of n. -/
def pick (zs : List Int) (len : Nat) (c : St) (n : Nat) : Nat := (belowV zs len c n).toNat
theorem pick_lt (zs : List Int) (len : Nat) (c : St) (n : Nat) (h : 0 < n) : pick zs len c n < n := by
  have := belowV_bd zs len c n (by omega)
  unfold pick
  omega

end Go.Proofs.YtmgikfeknmbpbaaGreatDoor.M
namespace Go.Proofs.YtmgikfeknmbpbaaGreatDoor
open Go.RowKit M

/-- The bytes of a draw, in memory: the first len of zs. -/
structure CodeAt (w : World) (a : Option Addr) (len : Nat) (zs : List Int) : Prop where
  le : len ≤ zs.length
  bd : ∀ j, j < len → 0 ≤ zs.getD j 0 ∧ zs.getD j 0 ≤ 255
  at0 : 0 < len → ∃ b off, a = some ⟨b, off, none⟩ ∧ ∀ j, j < len → w.cell? ⟨b, off + j, none⟩ = some (.int .u8 (zs.getD j 0))

/-- A cursor in block N: the bytes, the place, the number mixed. -/
structure Cur (w : World) (N : Nat) (sl : Value) (c : St) : Prop where
  c0 : w.cell? ⟨N, 0, none⟩ = some sl
  c1 : w.cell? ⟨N, 1, none⟩ = some (.int .i64 c.i)
  c2 : w.cell? ⟨N, 2, none⟩ = some (.int .i64 c.h)
  f1 : w.frozen? ⟨N, 1, none⟩ = false
  f2 : w.frozen? ⟨N, 2, none⟩ = false

theorem grown_trans {a b c : World} {r : Option Nat} (h : a.grownBy b r) (k : b.grownBy c r) : a.grownBy c r :=
  ⟨k.os.trans h.os, k.tape.trans h.tape, k.output.trans h.output, Nat.le_trans h.size k.size, fun i hi hr => (k.block i (Nat.lt_of_lt_of_le hi h.size) hr).trans (h.block i hi hr)⟩
theorem grown_refl (a : World) (r : Option Nat) : a.grownBy a r := ⟨rfl, rfl, rfl, Nat.le_refl _, fun _ _ _ => rfl⟩
theorem grown_drewN {a b : World} {r : Option Nat} (h : a.grownBy b r) (n : Nat) : a.grownBy (b.drewN n) r := ⟨h.os, h.tape, h.output, h.size, h.block⟩
theorem grown_set {a b : World} {N : Nat} (h : a.grownBy b (some N)) (o : Nat) (v : Value) : a.grownBy (b.setCell ⟨N, o, none⟩ v) (some N) := by
  have hb := (Below.refl N b).setCell (p := ⟨N, o, none⟩) (Nat.le_refl _) v
  refine ⟨hb.os.trans h.os, hb.tape.trans h.tape, hb.output.trans h.output, Nat.le_trans h.size hb.size, fun i hi hr => ?_⟩
  rw [← h.block i hi hr]
  have hne : N ≠ i := fun e => hr (by rw [e])
  simp only [World.setCell]
  split
  · simp_all
  · rw [Array.getElem?_modify, if_neg hne]
theorem grown_alloc {a b : World} {r : Option Nat} (h : a.grownBy b r) (o : Obj) : a.grownBy (b.alloc o) r :=
  ⟨h.os, h.tape, h.output, Nat.le_trans h.size (by simp), fun i hi hr => (Below.heap_alloc b o i (Nat.lt_of_lt_of_le hi h.size)).trans (h.block i hi hr)⟩
theorem grown_below {a b : World} {N B : Nat} (h : a.grownBy b (some N)) (hB : B ≤ N) (hBa : B ≤ a.heap.size) : Below B a b :=
  ⟨h.os, h.tape, h.output, h.size, fun k hk => h.block k (by omega) (fun e => by cases e; omega)⟩

theorem Cur.set2 {w : World} {N : Nat} {sl : Value} {c : St} (hc : Cur w N sl c) (h : Int) : Cur (w.setCell ⟨N, 2, none⟩ (.int .i64 h)) N sl ⟨c.i, h⟩ :=
  ⟨by rw [World.cell?_setCell_other _ _ _ _ (by simp)]; exact hc.c0, by rw [World.cell?_setCell_other _ _ _ _ (by simp)]; exact hc.c1, World.cell?_setCell_same _ _ _ hc.c2, by rw [World.frozen?_setCell]; exact hc.f1, by rw [World.frozen?_setCell]; exact hc.f2⟩
theorem Cur.set1 {w : World} {N : Nat} {sl : Value} {c : St} (hc : Cur w N sl c) (i : Nat) (v : Int) (hv : v = (i : Int)) : Cur (w.setCell ⟨N, 1, none⟩ (.int .i64 v)) N sl ⟨i, c.h⟩ := by
  subst hv
  exact ⟨by rw [World.cell?_setCell_other _ _ _ _ (by simp)]; exact hc.c0, World.cell?_setCell_same _ _ _ hc.c1, by rw [World.cell?_setCell_other _ _ _ _ (by simp)]; exact hc.c2, by rw [World.frozen?_setCell]; exact hc.f1, by rw [World.frozen?_setCell]; exact hc.f2⟩
theorem Cur.drewN {w : World} {N : Nat} {sl : Value} {c : St} (hc : Cur w N sl c) (n : Nat) : Cur (w.drewN n) N sl c := ⟨hc.c0, hc.c1, hc.c2, hc.f1, hc.f2⟩

set_option maxHeartbeats 1000000 in
theorem l1Byte_any (N : Nat) (a : Option Addr) (len cap : Nat) (zs : List Int) (c : St) (w : World) (hc : Cur w N (.slice a len cap) c) (hd : CodeAt w a len zs) (hbN : 0 < len → ∀ b off, a = some ⟨b, off, none⟩ → b < N) (hlen : len ≤ 1048576) :
    Calls Tryz.prog 45 #[.pointer (some ⟨N, 0, none⟩)] w fun e w' => e = .returned (.int .i64 (xByte zs len c.i c.h)) ∧ Cur w' N (.slice a len cap) (next len c) ∧ w.grownBy w' (some N) := by
  have HC : Hid (Cur w N (.slice a len cap) c) := hc
  obtain ⟨c0, c1, c2, f1, f2⟩ := hc
  obtain ⟨i, h⟩ := c
  simp only at c1 c2
  by_cases hi : i < len
  · obtain ⟨b, off, rfl, hcell⟩ := hd.at0 (by omega)
    have hb := hd.bd i hi
    have hcx := hcell i hi
    have hi' : (i : Int) < (len : Int) := by omega
    have HX : Hid (xByte zs len i h = (xMix h + zs.getD i 0) % 256) := by unfold xByte; exact if_pos hi
    have HN : Hid (next len ⟨i, h⟩ = ⟨i + 1, hNext h⟩) := by unfold next iNext; rw [if_pos hi]; exact rfl
    clear hd hcell
    generalize zs.getD i 0 = z at hb hcx HX
    obtain ⟨hb0, hb1⟩ := hb
    have hlt := hbN (by omega) b off rfl
    have hcx2 : ∀ v, (w.setCell ⟨N, 2, none⟩ v).cell? ⟨b, off + i, none⟩ = some (.int .u8 z) := fun v => by
      rw [World.cell?_setCell_other _ _ _ _ (fun e => by have := congrArg Addr.block e; simp only at this; omega)]; exact hcx
    clear hbN hlt
    have hx := xMix_bd h
    have HM : Hid (bits BinOp.and IntKind.i64 (bits BinOp.xor IntKind.i64 (wrap64 (wrap64 (h * 6364136223846793005) + 1442695040888963407) / 8589934592) (wrap64 (wrap64 (h * 6364136223846793005) + 1442695040888963407) / 140737488355328)) 255 = xMix h) := by
      show _ = _
      rw [i64_and255]; rfl
    go_enter Tryz.func45, Tryz.ntmps45
    go_wp2
    go_quiet (fail)
    rw [HM.out]
    go_wp2
    go_quiet (fail)
    go_wp2
    go_quiet (fail)
    go_wp2
    go_ret
    refine ⟨?_, ?_, ?_⟩
    · rw [HX.out]
      simp only [i64_and255]
      rfl
    · rw [HN.out]
      exact ((HC.out.set2 _).drewN _).set1 (i + 1) ((i : Int) + 1) (by simp)
    · exact grown_set (grown_drewN (grown_set (grown_refl _ _) _ _) _) _ _
  · have hi' : ¬ (i : Int) < (len : Int) := by omega
    have HX : Hid (xByte zs len i h = xMix h) := by unfold xByte; exact if_neg hi
    have HN : Hid (next len ⟨i, h⟩ = ⟨i, hNext h⟩) := by unfold next iNext; rw [if_neg hi]; exact rfl
    clear hd
    go_enter Tryz.func45, Tryz.ntmps45
    go_wp2
    go_quiet (fail)
    go_wp2
    go_quiet (fail)
    go_wp2
    go_ret
    refine ⟨?_, ?_, grown_drewN (grown_drewN (grown_set (grown_refl _ _) _ _) _) _⟩
    · rw [HX.out]
      simp only [xMix, hNext, i64_and255]
      rfl
    · rw [HN.out]
      exact ((HC.out.set2 _).drewN _).drewN _

theorem cur_le {N : Nat} {w w' : World} (h : w.grownBy w' (some N)) {a : Option Addr} {len : Nat} {zs : List Int} (hd : CodeAt w a len zs) (hbN : 0 < len → ∀ b off, a = some ⟨b, off, none⟩ → b < N) : CodeAt w' a len zs := by
  refine ⟨hd.le, hd.bd, fun h0 => ?_⟩
  obtain ⟨b, off, rfl, hc⟩ := hd.at0 h0
  refine ⟨b, off, rfl, fun j hj => ?_⟩
  refine h.cell (hc j hj) ?_
  have := hbN h0 b off rfl
  simp only [ne_eq, Option.some.injEq]
  omega

set_option maxHeartbeats 1000000 in
theorem l1Below_any (N : Nat) (a : Option Addr) (len cap : Nat) (zs : List Int) (c : St) (n : Int) (w : World) (hc : Cur w N (.slice a len cap) c) (hd : CodeAt w a len zs) (hbN : 0 < len → ∀ b off, a = some ⟨b, off, none⟩ → b < N) (hlen : len ≤ 1048576) (hn : 0 < n) (hn2 : n ≤ 1000000) :
    Calls Tryz.prog 24 #[.pointer (some ⟨N, 0, none⟩), .int .i64 n] w fun e w' => e = .returned (.int .i64 (belowV zs len c n)) ∧ Cur w' N (.slice a len cap) (belowS len c n) ∧ w.grownBy w' (some N) := by
  have HB : Hid (0 < len → ∀ b off, a = some ⟨b, off, none⟩ → b < N) := hbN
  have HC : Hid (Cur w N (.slice a len cap) c) := hc
  have HD : Hid (CodeAt w a len zs) := hd
  clear hbN hc hd
  have hn' : ¬ n ≤ 0 := by omega
  have hx1 := xByte_bd zs len c.i c.h
  by_cases h256 : n ≤ 256
  · have HV : Hid (belowV zs len c n = xByte zs len c.i c.h % n) := by unfold belowV; exact if_pos h256
    have HS : Hid (belowS len c n = next len c) := by unfold belowS; exact if_pos h256
    go_enter Tryz.func24, Tryz.ntmps24
    go_wp2_with (go_at_call 45; refine (l1Byte_any N a len cap zs c _ HC.out HD.out HB.out hlen).mono ?_; rintro e w1 ⟨rfl, hc1, hg1⟩)
    go_ret
    exact ⟨by rw [HV.out]; rfl, by rw [HS.out]; exact hc1, hg1⟩
  · have HV : Hid (belowV zs len c n = (xByte zs len c.i c.h * 65536 + xByte zs len (next len c).i (next len c).h * 256 + xByte zs len (next len (next len c)).i (next len (next len c)).h) % n) := by unfold belowV; exact if_neg h256
    have HS : Hid (belowS len c n = next len (next len (next len c))) := by unfold belowS; exact if_neg h256
    have hx2 := xByte_bd zs len (next len c).i (next len c).h
    have hx3 := xByte_bd zs len (next len (next len c)).i (next len (next len c)).h
    go_enter Tryz.func24, Tryz.ntmps24
    go_wp2_with fail
    refine (l1Byte_any N a len cap zs c _ HC.out HD.out HB.out hlen).mono ?_
    rintro e w1 ⟨rfl, hc1, hg1⟩
    have HC1 : Hid (Cur w1 N (.slice a len cap) (next len c)) := hc1
    clear hc1
    go_wp2_with fail
    refine (l1Byte_any N a len cap zs (next len c) _ HC1.out (cur_le hg1 HD.out HB.out) HB.out hlen).mono ?_
    rintro e w2 ⟨rfl, hc2, hg2⟩
    have HC2 : Hid (Cur w2 N (.slice a len cap) (next len (next len c))) := hc2
    clear hc2
    go_wp2_with fail
    refine (l1Byte_any N a len cap zs (next len (next len c)) _ HC2.out (cur_le (grown_trans hg1 hg2) HD.out HB.out) HB.out hlen).mono ?_
    rintro e w3 ⟨rfl, hc3, hg3⟩
    go_wp2
    go_ret
    exact ⟨by rw [HV.out]; rfl, by rw [HS.out]; exact hc3, grown_trans (grown_trans hg1 hg2) hg3⟩
end Go.Proofs.YtmgikfeknmbpbaaGreatDoor
namespace Go.Proofs.YtmgikfeknmbpbaaGreatDoor
open Go.RowKit M

theorem cur_new (w : World) (sl : Value) (m : Int) (T : TypeId) : Cur (w.alloc (Obj.cells #[sl, .int .i64 0, .int .i64 m] T)) w.heap.size sl ⟨0, m⟩ :=
  ⟨by simp, by simp, by simp, by simp, by simp⟩

set_option maxHeartbeats 1000000 in
set_option maxRecDepth 100000 in
theorem l1New_any (a : Option Addr) (len cap : Nat) (zs : List Int) (w : World) (hd : CodeAt w a len zs) (hlen : len ≤ 1048576) :
    Calls Tryz.prog 19 #[.slice a len cap] w fun e w' => e = .returned (.pointer (some ⟨w.heap.size, 0, none⟩)) ∧ Cur w' w.heap.size (.slice a len cap) (newS zs len) ∧ Below w.heap.size w w' ∧ w'.heap.size = w.heap.size + 1 := by
  have HD : Hid (CodeAt w a len zs) := hd
  have hle := hd.le
  clear hd
  go_enter Tryz.func19, Tryz.ntmps19
  go_wp2
  go_loop [3, 4] (fun h i => ∃ k : Nat, k ≤ len ∧ k ≤ 4000 ∧ i = .int .i64 k ∧ h = .int .i64 (mixF (774774 + (len : Int)) (zs.take k))) (fun _ i => len - (intOf i).toNat)
  case atStart => exact ⟨0, Nat.zero_le _, Nat.zero_le _, rfl, rfl⟩
  case round =>
    obtain ⟨k, hk, hk4, rfl, rfl⟩ := hrel
    have hm := mixF_bd (774774 + (len : Int)) (zs.take k) (by omega) (by omega)
    by_cases hlt : k < len
    · by_cases h4 : k < 4000
      · obtain ⟨b, off, rfl, hcell⟩ := HD.out.at0 (by omega)
        have hcx := hcell k hlt
        have hb := HD.out.bd k hlt
        have HS : Hid (mixF (774774 + (len : Int)) (zs.take (k + 1)) = (mixF (774774 + (len : Int)) (zs.take k) * 137 + zs.getD k 0 + 11) % 1073741824) := by
          show _ = _
          rw [take_snocZ zs k (by omega), mixF_snoc]
        clear hcell
        obtain ⟨m, hmm⟩ : ∃ m, m = mixF (774774 + (len : Int)) (zs.take k) := ⟨_, rfl⟩
        rw [← hmm] at hm HS ⊢
        clear hmm
        generalize zs.getD k 0 = z at hcx hb HS
        go_wp2
        go_round
        case rel =>
          refine ⟨k + 1, by omega, by omega, by go_num, ?_⟩
          rw [HS.out]
          simp only [i64_and30]
        case measure => simp [intOf]; omega
      · have e4 : newS zs len = ⟨0, mixF (774774 + (len : Int)) (zs.take k)⟩ := by
          unfold newS
          rw [List.take_take, show min 4000 len = k by omega]
        have HE : Hid (newS zs len = ⟨0, mixF (774774 + (len : Int)) (zs.take k)⟩) := e4
        clear e4
        obtain ⟨m, hmm⟩ : ∃ m, m = mixF (774774 + (len : Int)) (zs.take k) := ⟨_, rfl⟩
        rw [← hmm] at hm HE ⊢
        clear hmm
        go_wp2
        go_ret
        exact ⟨rfl, by rw [HE.out]; exact cur_new _ _ _ _, (Below.refl _ _).alloc (Nat.le_refl _) _, by simp⟩
    · have e4 : newS zs len = ⟨0, mixF (774774 + (len : Int)) (zs.take k)⟩ := by
        unfold newS
        rw [List.take_take, show min 4000 len = k by omega]
      have HE : Hid (newS zs len = ⟨0, mixF (774774 + (len : Int)) (zs.take k)⟩) := e4
      clear e4
      obtain ⟨m, hmm⟩ : ∃ m, m = mixF (774774 + (len : Int)) (zs.take k) := ⟨_, rfl⟩
      rw [← hmm] at hm HE ⊢
      clear hmm
      go_wp2
      go_ret
      exact ⟨rfl, by rw [HE.out]; exact cur_new _ _ _ _, (Below.refl _ _).alloc (Nat.le_refl _) _, by simp⟩

set_option maxHeartbeats 400000 in
theorem l1Str_any (N M : Nat) (a : Option Addr) (len cap n : Nat) (zs : List Int) (ss : List ByteArray) (c : St) (w : World) (hc : Cur w N (.slice a len cap) c) (hd : CodeAt w a len zs) (hbN : 0 < len → ∀ b off, a = some ⟨b, off, none⟩ → b < N) (hlen : len ≤ 1048576) (hn : 0 < n) (hn2 : n ≤ 256) (hMN : M ≠ N)
    (hls : ∀ j, j < n → w.cell? ⟨M, j, none⟩ = some (.string (ss.getD j ByteArray.empty))) :
    Calls Tryz.prog 25 #[.pointer (some ⟨N, 0, none⟩), .slice (some ⟨M, 0, none⟩) n n] w fun e w' => e = .returned (.string (ss.getD (pick zs len c n) ByteArray.empty)) ∧ Cur w' N (.slice a len cap) (belowS len c n) ∧ w.grownBy w' (some N) := by
  have HB : Hid (Calls Tryz.prog 24 #[.pointer (some ⟨N, 0, none⟩), .int .i64 (n : Int)] w fun e w' => e = .returned (.int .i64 (belowV zs len c n)) ∧ Cur w' N (.slice a len cap) (belowS len c n) ∧ w.grownBy w' (some N)) :=
    l1Below_any N a len cap zs c n w hc hd hbN hlen (by omega) (by omega)
  have HL : Hid (∀ j, j < n → w.cell? ⟨M, j, none⟩ = some (.string (ss.getD j ByteArray.empty))) := hls
  have hp := pick_lt zs len c n hn
  have ep : belowV zs len c n = (pick zs len c n : Int) := by
    have := belowV_bd zs len c n (by omega)
    unfold pick
    omega
  rw [ep] at HB
  clear hbN hc hd hls ep
  generalize pick zs len c n = p at *
  go_enter Tryz.func25, Tryz.ntmps25
  go_wp2_with fail
  refine HB.out.mono ?_
  rintro e w1 ⟨rfl, hc1, hg1⟩
  have hcx : w1.cell? ⟨M, p, none⟩ = some (.string (ss.getD p ByteArray.empty)) := hg1.cell (HL.out p hp) (by simpa using hMN)
  have HC1 : Hid (Cur w1 N (.slice a len cap) (belowS len c n)) := hc1
  have HG1 : Hid (w.grownBy w1 (some N)) := hg1
  clear hc1 hg1 HL
  go_wp2
  go_ret
  exact ⟨rfl, HC1.out, HG1.out⟩
end Go.Proofs.YtmgikfeknmbpbaaGreatDoor
namespace Go.Proofs.YtmgikfeknmbpbaaGreatDoor
open Go.RowKit M

/-- All that a call on a cursor in block N wants. -/
structure DC (w : World) (N : Nat) (a : Option Addr) (len cap : Nat) (zs : List Int) (c : St) : Prop where
  cur : Cur w N (.slice a len cap) c
  code : CodeAt w a len zs
  bN : 0 < len → ∀ b off, a = some ⟨b, off, none⟩ → b < N
  hlen : len ≤ 1048576
  lt : N < w.heap.size

theorem DC.grown {w w' : World} {N : Nat} {a : Option Addr} {len cap : Nat} {zs : List Int} {c c' : St} (h : DC w N a len cap zs c) (hg : w.grownBy w' (some N)) (hc : Cur w' N (.slice a len cap) c') : DC w' N a len cap zs c' :=
  ⟨hc, cur_le hg h.code h.bN, h.bN, h.hlen, Nat.lt_of_lt_of_le h.lt hg.size⟩

theorem DC.alloc {w : World} {N : Nat} {a : Option Addr} {len cap : Nat} {zs : List Int} {c : St} (h : DC w N a len cap zs c) (o : Obj) : DC (w.alloc o) N a len cap zs c := by
  have hg : w.grownBy (w.alloc o) (some N) := grown_alloc (grown_refl _ _) o
  refine ⟨⟨?_, ?_, ?_, ?_, ?_⟩, cur_le hg h.code h.bN, h.bN, h.hlen, Nat.lt_of_lt_of_le h.lt hg.size⟩
  · exact (World.cell?_alloc_past o N 0 h.lt).trans h.cur.c0
  · exact (World.cell?_alloc_past o N 1 h.lt).trans h.cur.c1
  · exact (World.cell?_alloc_past o N 2 h.lt).trans h.cur.c2
  · exact (World.frozen?_alloc_past o N 1 h.lt).trans h.cur.f1
  · exact (World.frozen?_alloc_past o N 2 h.lt).trans h.cur.f2

theorem row_strs (w : World) (ss : List ByteArray) (T : TypeId) (C : Array Value) (n : Nat) (hC : C = (ss.map Value.string).toArray) (hn : ss.length = n) : ∀ j, j < n → (w.alloc (.cells C T)).cell? ⟨w.heap.size, j, none⟩ = some (.string (ss.getD j ByteArray.empty)) := by
  subst hC hn
  intro j hj
  rw [World.cell?_alloc_new]
  simp [List.getD_eq_getElem?_getD, List.getElem?_eq_getElem hj]

/-- l1Str at a list that was just built. -/
theorem strNew {w : World} {N : Nat} {a : Option Addr} {len cap : Nat} {zs : List Int} {c : St} (h : DC w N a len cap zs c) (ss : List ByteArray) (C : Array Value) (T : TypeId) (n M : Nat) (hM : M = w.heap.size) (hC : C = (ss.map Value.string).toArray) (hn : ss.length = n) (h0 : 0 < n) (h1 : n ≤ 256) :
    Calls Tryz.prog 25 #[.pointer (some ⟨N, 0, none⟩), .slice (some ⟨M, 0, none⟩) n n] (w.alloc (.cells C T)) fun e w' => e = .returned (.string (ss.getD (pick zs len c n) ByteArray.empty)) ∧ DC w' N a len cap zs (belowS len c n) ∧ w.grownBy w' (some N) := by
  subst hM
  have hA := h.alloc (.cells C T)
  refine (l1Str_any N w.heap.size a len cap n zs ss c _ hA.cur hA.code h.bN h.hlen h0 h1 (by have := h.lt; omega) (row_strs w ss T C n hC hn)).mono ?_
  rintro e w1 ⟨rfl, hc1, hg1⟩
  exact ⟨rfl, hA.grown hg1 hc1, grown_trans (grown_alloc (grown_refl _ _) _) hg1⟩

def textL : List ByteArray := [⟨#[]⟩, ⟨#[97]⟩, ⟨#[98]⟩, ⟨#[97, 98]⟩, ⟨#[97, 45, 98]⟩, ⟨#[65, 98]⟩, ⟨#[32, 97, 32]⟩, ⟨#[120, 49]⟩, ⟨#[116, 119, 101, 110, 116, 121, 45, 111, 110, 101, 45, 115, 109, 97, 108, 108, 45, 116, 101, 120, 116]⟩, ⟨#[97, 32, 98]⟩, ⟨#[9]⟩, ⟨#[127]⟩, ⟨#[49, 97]⟩, ⟨#[45, 97]⟩, ⟨#[60, 97, 38, 98, 62]⟩, ⟨#[34, 113, 34]⟩]
def textV (zs : List Int) (len : Nat) (c : St) : ByteArray := textL.getD (pick zs len c 16) ByteArray.empty
end Go.Proofs.YtmgikfeknmbpbaaGreatDoor
namespace Go.Proofs.YtmgikfeknmbpbaaGreatDoor
open Go.RowKit M

/-- The bytes of a draw, in old memory. -/
structure CodeIn (w : World) (B : Nat) (a : Option Addr) (len : Nat) (zs : List Int) : Prop where
  code : CodeAt w a len zs
  bB : 0 < len → ∀ b off, a = some ⟨b, off, none⟩ → b < B
  hlen : len ≤ 1048576
  hB : B ≤ w.heap.size

theorem CodeIn.below {w w' : World} {B : Nat} {a : Option Addr} {len : Nat} {zs : List Int} (h : CodeIn w B a len zs) (hb : Below B w w') : CodeIn w' B a len zs := by
  refine ⟨⟨h.code.le, h.code.bd, fun h0 => ?_⟩, h.bB, h.hlen, Nat.le_trans h.hB hb.size⟩
  obtain ⟨b, off, rfl, hc⟩ := h.code.at0 h0
  refine ⟨b, off, rfl, fun j hj => ?_⟩
  exact (hb.cell (p := ⟨b, off + j, none⟩) (h.bB h0 b off rfl)).trans (hc j hj)

/-- A new cursor over them. -/
theorem newDC {w : World} {B : Nat} {a : Option Addr} {len : Nat} {zs : List Int} (h : CodeIn w B a len zs) (cap : Nat) :
    Calls Tryz.prog 19 #[.slice a len cap] w fun e w' => e = .returned (.pointer (some ⟨w.heap.size, 0, none⟩)) ∧ DC w' w.heap.size a len cap zs (newS zs len) ∧ Below w.heap.size w w' := by
  refine (l1New_any a len cap zs w h.code h.hlen).mono ?_
  rintro e w1 ⟨rfl, hc, hb, hs⟩
  have h1 := h.below (hb.mono h.hB)
  exact ⟨rfl, ⟨hc, h1.code, fun h0 b off e => Nat.lt_of_lt_of_le (h.bB h0 b off e) h.hB, h.hlen, by omega⟩, hb⟩

theorem dc_below {w w1 w2 : World} (hb : Below w.heap.size w w1) (hg : w1.grownBy w2 (some w.heap.size)) : Below w.heap.size w w2 :=
  hb.trans (grown_below hg (Nat.le_refl _) hb.size)

theorem getD_mem {α : Type} (l : List α) (i : Nat) (d : α) (p : α → Prop) (h : ∀ x ∈ l, p x) (hd : p d) : p (l.getD i d) := by
  rw [List.getD_eq_getElem?_getD]
  cases e : l[i]? with
  | none => exact hd
  | some x => exact h x (List.mem_of_getElem? e)

theorem textV_le (zs : List Int) (len : Nat) (c : St) : (textV zs len c).size ≤ 100 :=
  getD_mem textL _ _ (fun s => s.size ≤ 100) (by decide) (by decide)
end Go.Proofs.YtmgikfeknmbpbaaGreatDoor
namespace Go.Proofs.YtmgikfeknmbpbaaGreatDoor
open Go.RowKit M
set_option linter.unusedVariables false

/-- A cursor in block N, wherever it stands. -/
def DX (w : World) (N : Nat) (a : Option Addr) (len cap : Nat) (zs : List Int) : Prop := ∃ c, DC w N a len cap zs c

theorem DX.alloc {w : World} {N : Nat} {a : Option Addr} {len cap : Nat} {zs : List Int} (h : DX w N a len cap zs) (o : Obj) : DX (w.alloc o) N a len cap zs := by
  obtain ⟨c, h⟩ := h; exact ⟨c, h.alloc o⟩

theorem l1BelowX {w : World} {N : Nat} {a : Option Addr} {len cap : Nat} {zs : List Int} (h : DX w N a len cap zs) (n : Int) (hn : 0 < n) (hn2 : n ≤ 1000000) :
    Calls Tryz.prog 24 #[.pointer (some ⟨N, 0, none⟩), .int .i64 n] w fun e w' => (∃ k : Nat, e = .returned (.int .i64 k) ∧ (k : Int) < n) ∧ DX w' N a len cap zs ∧ w.grownBy w' (some N) := by
  obtain ⟨c, h⟩ := h
  refine (l1Below_any N a len cap zs c n w h.cur h.code h.bN h.hlen hn hn2).mono ?_
  rintro e w1 ⟨rfl, hc1, hg1⟩
  have hb := belowV_bd zs len c n hn
  exact ⟨⟨(belowV zs len c n).toNat, by rw [Int.toNat_of_nonneg hb.1], by rw [Int.toNat_of_nonneg hb.1]; exact hb.2⟩, ⟨_, h.grown hg1 hc1⟩, hg1⟩

/-- The cursor stands where another row of the call's own has grown. -/
theorem DX.other {w w' : World} {N : Nat} {a : Option Addr} {len cap : Nat} {zs : List Int} (h : DX w N a len cap zs) (hs : w.heap.size ≤ w'.heap.size) (hk : ∀ k, k ≤ N → w'.heap[k]? = w.heap[k]?) : DX w' N a len cap zs := by
  obtain ⟨c, h⟩ := h
  have hc : ∀ p : Addr, p.block ≤ N → w'.cell? p = w.cell? p := fun p hp => World.cell?_of_block (w := w) (hk p.block hp)
  have hf : ∀ p : Addr, p.block ≤ N → w'.frozen? p = w.frozen? p := fun p hp => World.frozen?_of_block (w := w) (hk p.block hp)
  refine ⟨c, ⟨⟨?_, ?_, ?_, ?_, ?_⟩, ?_, h.bN, h.hlen, Nat.lt_of_lt_of_le h.lt hs⟩⟩
  · rw [hc _ (Nat.le_refl _)]; exact h.cur.c0
  · rw [hc _ (Nat.le_refl _)]; exact h.cur.c1
  · rw [hc _ (Nat.le_refl _)]; exact h.cur.c2
  · rw [hf _ (Nat.le_refl _)]; exact h.cur.f1
  · rw [hf _ (Nat.le_refl _)]; exact h.cur.f2
  · refine ⟨h.code.le, h.code.bd, fun h0 => ?_⟩
    obtain ⟨b, off, e, hcc⟩ := h.code.at0 h0
    have hb := h.bN h0 b off e
    exact ⟨b, off, e, fun j hj => by rw [hc ⟨b, off + j, none⟩ (by show b ≤ N; omega)]; exact hcc j hj⟩

theorem grown_past {w w1 w2 : World} {r : Option Nat} (h : w.grownBy w1 r) (hb : Below w.heap.size w1 w2) : w.grownBy w2 r :=
  ⟨hb.os.trans h.os, hb.tape.trans h.tape, hb.output.trans h.output, Nat.le_trans h.size hb.size, fun k hk hne => (hb.block k hk).trans (h.block k hk hne)⟩

theorem strNewX {w : World} {N : Nat} {a : Option Addr} {len cap : Nat} {zs : List Int} (h : DX w N a len cap zs) (ss : List ByteArray) (C : Array Value) (T : TypeId) (n M : Nat) (hM : M = w.heap.size) (hC : C = (ss.map Value.string).toArray) (hn : ss.length = n) (h0 : 0 < n) (h1 : n ≤ 256) (hz : ∀ s ∈ ss, s.size ≤ 20) :
    Calls Tryz.prog 25 #[.pointer (some ⟨N, 0, none⟩), .slice (some ⟨M, 0, none⟩) n n] (w.alloc (.cells C T)) fun e w' => (∃ s : ByteArray, e = .returned (.string s) ∧ s.size ≤ 20) ∧ DX w' N a len cap zs ∧ w.grownBy w' (some N) := by
  obtain ⟨c, h⟩ := h
  refine (strNew h ss C T n M hM hC hn h0 h1).mono ?_
  rintro e w1 ⟨rfl, hd, hg⟩
  exact ⟨⟨_, rfl, getD_mem ss _ _ (fun s => s.size ≤ 20) hz (by decide)⟩, ⟨_, hd⟩, hg⟩

theorem DX.lt {w : World} {N : Nat} {a : Option Addr} {len cap : Nat} {zs : List Int} (h : DX w N a len cap zs) : N < w.heap.size := by obtain ⟨c, h⟩ := h; exact h.lt

theorem newDX {w : World} {B : Nat} {a : Option Addr} {len : Nat} {zs : List Int} (h : CodeIn w B a len zs) (cap : Nat) :
    Calls Tryz.prog 19 #[.slice a len cap] w fun e w' => e = .returned (.pointer (some ⟨w.heap.size, 0, none⟩)) ∧ DX w' w.heap.size a len cap zs ∧ Below w.heap.size w w' := by
  refine (newDC h cap).mono ?_
  rintro e w1 ⟨rfl, hd, hb⟩
  exact ⟨rfl, ⟨_, hd⟩, hb⟩
end Go.Proofs.YtmgikfeknmbpbaaGreatDoor
namespace Go.Proofs.YtmgikfeknmbpbaaGreatDoor
open Go.RowKit M

set_option maxHeartbeats 400000 in
theorem l1Once_any (N : Nat) (a : Option Addr) (len cap : Nat) (zs : List Int) (c : St) (n : Int) (w : World) (hc : Cur w N (.slice a len cap) c) (hd : CodeAt w a len zs) (hbN : 0 < len → ∀ b off, a = some ⟨b, off, none⟩ → b < N) (hlen : len ≤ 1048576) (hn : 0 < n) (hn2 : n ≤ 1000000) :
    Calls Tryz.prog 43 #[.pointer (some ⟨N, 0, none⟩), .int .i64 n] w fun e w' => e = .returned (.bool (belowV zs len c n == 0)) ∧ Cur w' N (.slice a len cap) (belowS len c n) ∧ w.grownBy w' (some N) := by
  have HB : Hid (∀ W, Cur W N (.slice a len cap) c → CodeAt W a len zs → Calls Tryz.prog 24 #[.pointer (some ⟨N, 0, none⟩), .int .i64 n] W fun e w' => e = .returned (.int .i64 (belowV zs len c n)) ∧ Cur w' N (.slice a len cap) (belowS len c n) ∧ W.grownBy w' (some N)) :=
    fun W h1 h2 => l1Below_any N a len cap zs c n W h1 h2 hbN hlen hn hn2
  have HC : Hid (Cur w N (.slice a len cap) c) := hc
  have HD : Hid (CodeAt w a len zs) := hd
  clear hbN hc hd
  generalize belowV zs len c n = v at *
  go_enter Tryz.func43, Tryz.ntmps43
  go_wp2_with (go_at_call 24; refine (HB.out _ HC.out HD.out).mono ?_; rintro e w1 ⟨rfl, hc1, hg1⟩)
  go_ret
  exact ⟨rfl, hc1, hg1⟩
end Go.Proofs.YtmgikfeknmbpbaaGreatDoor
namespace Go.Proofs.YtmgikfeknmbpbaaGreatDoor

open Go.RowKit
theorem hide {p : Prop} (h : p) : Hid p := h
end Go.Proofs.YtmgikfeknmbpbaaGreatDoor
namespace Go.Proofs.YtmgikfeknmbpbaaGreatDoor
open Go.RowKit M
set_option linter.unusedVariables false

theorem strNewQ {w : World} {N : Nat} {a : Option Addr} {len cap : Nat} {zs : List Int} (h : DX w N a len cap zs) (z : Nat) (ss : List ByteArray) (C : Array Value) (T : TypeId) (n M : Nat) (hM : M = w.heap.size) (hC : C = (ss.map Value.string).toArray) (hn : ss.length = n) (h0 : 0 < n) (h1 : n ≤ 256) (hz : ∀ s ∈ ss, s.size ≤ z) :
    Calls Tryz.prog 25 #[.pointer (some ⟨N, 0, none⟩), .slice (some ⟨M, 0, none⟩) n n] (w.alloc (.cells C T)) fun e w' => (∃ s : ByteArray, e = .returned (.string s) ∧ s.size ≤ z) ∧ DX w' N a len cap zs ∧ w.grownBy w' (some N) := by
  obtain ⟨c, h⟩ := h
  refine (strNew h ss C T n M hM hC hn h0 h1).mono ?_
  rintro e w1 ⟨rfl, hd, hg⟩
  exact ⟨⟨_, rfl, getD_mem ss _ _ (fun s => s.size ≤ z) hz (Nat.zero_le _)⟩, ⟨_, hd⟩, hg⟩
theorem l1OnceQ {w : World} {N : Nat} {a : Option Addr} {len cap : Nat} {zs : List Int} (h : DX w N a len cap zs) (n : Int) (hn : 0 < n) (hn2 : n ≤ 1000000) :
    Calls Tryz.prog 43 #[.pointer (some ⟨N, 0, none⟩), .int .i64 n] w fun e w' => (∃ b : Bool, e = .returned (.bool b)) ∧ DX w' N a len cap zs ∧ w.grownBy w' (some N) := by
  obtain ⟨c, h⟩ := h
  refine (l1Once_any N a len cap zs c n w h.cur h.code h.bN h.hlen hn hn2).mono ?_
  rintro e w1 ⟨rfl, hc1, hg1⟩
  exact ⟨⟨_, rfl⟩, ⟨_, h.grown hg1 hc1⟩, hg1⟩
theorem DX.set {w : World} {N b k : Nat} {a : Option Addr} {len cap : Nat} {zs : List Int} (h : DX w N a len cap zs) (v : Value) (hb : N < b) : DX (w.setCell ⟨b, k, none⟩ v) N a len cap zs :=
  h.other (by simp) (fun i hi => Below.heap_setCell _ _ _ _ (by show i ≠ b; omega))
theorem DX.below {w w' : World} {N : Nat} {a : Option Addr} {len cap : Nat} {zs : List Int} (h : DX w N a len cap zs) (hb : Below w.heap.size w w') : DX w' N a len cap zs :=
  h.other hb.size (fun i hi => hb.block i (by have := h.lt; omega))
theorem grown_setQ {a b : World} {N k : Nat} {p : Nat} (h : a.grownBy b (some N)) (v : Value) (hp : a.heap.size ≤ p) : a.grownBy (b.setCell ⟨p, k, none⟩ v) (some N) :=
  ⟨h.os, h.tape, h.output, by simpa using h.size, fun i hi hne => (Below.heap_setCell _ _ _ _ (by show i ≠ p; omega)).trans (h.block i hi hne)⟩
theorem grown_belowQ {a b c : World} {N B : Nat} (h : a.grownBy b (some N)) (hb : Below B b c) (hB : a.heap.size ≤ B) : a.grownBy c (some N) :=
  ⟨hb.os.trans h.os, hb.tape.trans h.tape, hb.output.trans h.output, Nat.le_trans h.size hb.size, fun i hi hne => (hb.block i (by omega)).trans (h.block i hi hne)⟩

end Go.Proofs.YtmgikfeknmbpbaaGreatDoor
namespace Go.Proofs.YtmgikfeknmbpbaaGreatDoor
open Go.RowKit

theorem ret_str {l m : List UInt8} (h : l = m) : Ending.returned (.string ⟨l.toArray⟩) = .returned (.string ⟨m.toArray⟩) := by rw [h]

/-- 'string(b)' of a row of bytes that the call owns: its bytes; the world is as it was. -/
theorem conv_own {w : World} {B n : Nat} {v : Value} {l : List UInt8} (h : w.ownsRow B 5 1 v n (Lib.byteCells l)) :
    (convert 22 9 v).run Tryz.prog w = .ok (.string ⟨l.toArray⟩) w := by
  have hn : n = l.length := by have := h.1; rw [Lib.byteCells_length] at this; omega
  subst hn
  rcases h.2 with ⟨rfl, h0⟩ | ⟨g, cap, cur, rfl, _, hg, _, _, _, htk⟩
  · have : l = [] := List.length_eq_zero_iff.1 h0
    subst this
    exact run_convert_bytes_nil w 22 5 Tryz.underlying22 Tryz.underlying5 0 0 9 Tryz.underlying9
  · refine run_convert_bytes_back w 22 9 5 _ cap l Tryz.underlying22 Tryz.underlying5 Tryz.underlying9 ?_
    intro j hj
    exact h.cells (g := g) rfl j _ (by simp [Lib.byteCells, List.getElem?_eq_getElem hj])

/-- What grew by writes to a row that the call owns is as it was below. -/
theorem below_grown {w w' : World} {B n : Nat} {e : TypeId} {v : Value} {xs : List Value} (h : w.ownsRow B e 1 v n xs) (hB : B ≤ w.heap.size) (hg : w.grownBy w' v.ownBlock) : Below B w w' :=
  ⟨hg.os, hg.tape, hg.output, hg.size, fun k hk => hg.block k (Nat.lt_of_lt_of_le hk hB) (fun e => by have := h.lt k e.symm; omega)⟩

theorem info_byte : (Tryz.prog.info? 5).map (fun i => (i.zero, i.size, i.bytes)) = some (some (.int .u8 0), 1, 1) := by kernel_rfl

/-- 'b = append(b, c)' on a row of bytes that the call owns. -/
theorem wp_append_byte {w : World} {ops : Array Oper} {rest : List Oper} {o : Oper} {a : Act} {Q : Exit → Act → World → Prop} (hgd : o.guard = none) (s x : Operand)
    (ho : o.op = .call { callee := .builtin .append, args := #[s, x], argTypes := #[22, 22] })
    (B : Nat) (v : Value) (n : Nat) (l : List UInt8) (hs : a.eval s = v) (hown : w.ownsRow B 5 1 v n (Lib.byteCells l))
    (ad : Addr) (c : UInt8) (hx : a.eval x = .slice (some ad) 1 1) (hcell : w.cell? ad = some (.int .u8 c.toNat)) (hlen : n + 1 ≤ 140737488355328) (hB : B ≤ w.heap.size)
    (h : ∀ v' w', w'.ownsRow B 5 1 v' (n + 1) (Lib.byteCells (l ++ [c])) → Below B w w' → wpList Tryz.prog ops Q rest (a.put o.dst v') w') : wpList Tryz.prog ops Q (o :: rest) a w := by
  obtain ⟨i0, hi, hz0, hz1, hz2⟩ := info_parts info_byte
  refine wpList_append_own w hgd s x 22 ho B 5 i0 (.int .u8 0) 1 1 Tryz.underlying22 hi hz0 hz1 hz2 rfl (by decide) v n _ hs hown ad 1 1 [.int .u8 c.toNat] hx rfl ?_ ?_ ?_ ?_ hB ?_
  · intro j u hj
    match j, hj with
    | 0, hj =>
      simp at hj; subst hj
      have : ad.add 0 = ad := by unfold Addr.add; split <;> simp_all
      rw [this]; exact hcell
  · intro u hu; simp at hu; subst hu; rfl
  · unfold maxLen; omega
  · omega
  · intro v' w' ho' hg _
    refine h v' w' ?_ (below_grown hown hB hg)
    rw [Lib.byteCells_append]
    exact ho'

/-- A row of bytes in block N, none of them frozen. -/
def RowAt (w : World) (N : Nat) (l : List UInt8) : Prop := ∀ j (hj : j < l.length), w.cell? ⟨N, j, none⟩ = some (.int .u8 l[j].toNat) ∧ w.frozen? ⟨N, j, none⟩ = false

theorem RowAt.alloc {w : World} {N : Nat} {l : List UInt8} (h : RowAt w N l) (hN : N < w.heap.size) (o : Obj) : RowAt (w.alloc o) N l := fun j hj =>
  ⟨(World.cell?_alloc_past o N j hN).trans (h j hj).1, (World.frozen?_alloc_past o N j hN).trans (h j hj).2⟩

theorem RowAt.set {w : World} {N : Nat} {l : List UInt8} (h : RowAt w N l) (k : Nat) (hk : k < l.length) (c : UInt8) : RowAt (w.setCell ⟨N, k, none⟩ (.int .u8 c.toNat)) N (l.set k c) := by
  intro j hj
  have hj' : j < l.length := by simpa using hj
  refine ⟨?_, by rw [World.frozen?_setCell]; exact (h j hj').2⟩
  by_cases e : k = j
  · subst e
    rw [World.cell?_setCell_same _ _ _ (h k hk).1]
    simp
  · have hne : (⟨N, k, none⟩ : Addr) ≠ ⟨N, j, none⟩ := fun e' => e (congrArg Addr.off e')
    rw [World.cell?_setCell_other _ _ _ _ hne, (h j hj').1]
    simp [e]

/-- 'string(b)' of such a row. -/
theorem conv_row {w : World} {N n cap : Nat} {l : List UInt8} (h : RowAt w N l) (hn : l.length = n) :
    (convert 22 9 (.slice (some ⟨N, 0, none⟩) n cap)).run Tryz.prog w = .ok (.string ⟨l.toArray⟩) w := by
  subst hn
  refine run_convert_bytes_back w 22 9 5 _ cap l Tryz.underlying22 Tryz.underlying5 Tryz.underlying9 ?_
  intro j hj
  have : (⟨N, 0, none⟩ : Addr).add j = ⟨N, j, none⟩ := by
    unfold Addr.add; split <;> simp_all
  rw [this]; exact (h j hj).1

/-- 'string(b)' of the end of such a row. -/
theorem conv_at {w : World} {N o n cap : Nat} {pre l : List UInt8} (h : RowAt w N (pre ++ l)) (ho : pre.length = o) (hn : l.length = n) :
    (convert 22 9 (.slice (some ⟨N, o, none⟩) n cap)).run Tryz.prog w = .ok (.string ⟨l.toArray⟩) w := by
  subst hn ho
  refine run_convert_bytes_back w 22 9 5 _ cap l Tryz.underlying22 Tryz.underlying5 Tryz.underlying9 ?_
  intro j hj
  have e : (⟨N, pre.length, none⟩ : Addr).add j = ⟨N, pre.length + j, none⟩ := by
    unfold Addr.add; split <;> simp_all
  rw [e, (h (pre.length + j) (by simp; omega)).1]
  simp

end Go.Proofs.YtmgikfeknmbpbaaGreatDoor
namespace Go.Proofs.YtmgikfeknmbpbaaGreatDoor.M

/-- Whether a byte is of a kind, as the document has it. -/
def isB (c k : Int) : Bool :=
  if k = 0 then decide (32 ≤ c) && decide (c ≤ 126)
  else if k = 1 then (c == 32) || (c == 9)
  else if k = 2 then decide (97 ≤ c) && decide (c ≤ 122)
  else if k = 3 then decide (65 ≤ c) && decide (c ≤ 90)
  else if k = 4 then decide (48 ≤ c) && decide (c ≤ 57)
  else if k = 5 then decide (97 ≤ c) && decide (c ≤ 102)
  else if k = 6 then decide (65 ≤ c) && decide (c ≤ 70)
  else if k = 7 then c == 45
  else false

def anyB (c : Int) (ks : List Int) : Bool := ks.any (isB c)
def allB (l : List UInt8) (ks : List Int) : Bool := l.all fun c => anyB (c.toNat : Int) ks

theorem take_snoc (s : ByteArray) (k : Nat) (h : k < s.size) : s.data.toList.take (k + 1) = s.data.toList.take k ++ [s[k]] := by
  rw [List.take_succ_eq_append_getElem (by simpa using h)]; rfl

theorem take_all (s : ByteArray) (k : Nat) (h : ¬ k < s.size) : s.data.toList.take k = s.data.toList := by
  rw [List.take_of_length_le]
  have : s.data.toList.length = s.size := Array.length_toList
  omega

theorem anyB_snoc (c : Int) (ks : List Int) (k : Nat) (h : k < ks.length) (h0 : anyB c (ks.take k) = false) (h1 : isB c ks[k] = false) : anyB c (ks.take (k + 1)) = false := by
  unfold anyB at *
  rw [List.take_succ_eq_append_getElem h, List.any_append, h0]
  simp [h1]

theorem anyB_of (c : Int) (ks : List Int) (k : Nat) (h : k < ks.length) (h1 : isB c ks[k] = true) : anyB c ks = true := by
  unfold anyB
  rw [List.any_eq_true]
  exact ⟨_, List.getElem_mem h, h1⟩

theorem allB_snoc (s : ByteArray) (ks : List Int) (k : Nat) (h : k < s.size) (h0 : allB (s.data.toList.take k) ks = true) (h2 : (!anyB (s[k].toNat : Int) ks) = false) : allB (s.data.toList.take (k + 1)) ks = true := by
  have h1 : anyB (s[k].toNat : Int) ks = true := by simpa using h2
  rw [take_snoc s k h]
  unfold allB at *
  rw [List.all_append, h0]
  simp [h1]

theorem allB_not (s : ByteArray) (ks : List Int) (k : Nat) (h : k < s.size) (h2 : (!anyB (s[k].toNat : Int) ks) = true) : allB s.data.toList ks = false := by
  have h1 : anyB (s[k].toNat : Int) ks = false := by simpa using h2
  have hm : s[k] ∈ s.data.toList := by
    have e : s.data.toList.length = s.size := Array.length_toList
    have h' : k < s.data.toList.length := by omega
    exact List.getElem_mem h'
  unfold allB
  rw [List.all_eq_false]
  exact ⟨_, hm, by simp [h1]⟩

/-- Whether a number lies between two. -/
def inB (x a b : Int) : Bool := decide (a ≤ x) && decide (x ≤ b)
theorem inB_plain (c : Int) : inB c 32 126 = anyB c [0] := by simp [inB, anyB, isB]
theorem inB_small (c : Int) : inB c 97 122 = isB c 2 := by simp [inB, isB]
theorem inB_large (c : Int) : inB c 65 90 = isB c 3 := by simp [inB, isB]
theorem inB_digit (c : Int) : inB c 48 57 = isB c 4 := by simp [inB, isB]
theorem inB_hexs (c : Int) : inB c 97 102 = isB c 5 := by simp [inB, isB]
theorem inB_hexl (c : Int) : inB c 65 70 = isB c 6 := by simp [inB, isB]
theorem anyB_one (c k : Int) : anyB c [k] = isB c k := by simp [anyB]

theorem set_last (pre t : List UInt8) (n : Nat) (h : pre.length = n + 1) (c : UInt8) : ∃ q : List UInt8, q.length = n ∧ (pre ++ t).set n c = q ++ c :: t := by
  refine ⟨pre.take n, by rw [List.length_take]; omega, ?_⟩
  have e : pre = pre.take n ++ [pre[n]] := by
    conv => lhs; rw [← List.take_append_drop n pre]
    rw [List.drop_eq_getElem_cons (by omega), List.drop_of_length_le (by omega)]
  have e2 : pre ++ t = pre.take n ++ (pre[n] :: t) := by
    conv => lhs; rw [e]
    rw [List.append_assoc]; rfl
  have l2 : (pre.take n).length = n := by rw [List.length_take]; omega
  rw [e2, List.set_append_right _ _ (by omega), l2, Nat.sub_self, List.set_cons_zero]

/-- A large letter as a small one. -/
def lowB (c : UInt8) : UInt8 := if isB (c.toNat : Int) 3 then c + 32 else c
def lowL (l : List UInt8) : List UInt8 := l.map lowB

theorem lowB_yes (c : UInt8) (h : isB (c.toNat : Int) 3 = true) : (lowB c).toNat = c.toNat + 32 := by
  have h' : 65 ≤ c.toNat ∧ c.toNat ≤ 90 := by simp [isB] at h; omega
  unfold lowB
  rw [if_pos h, UInt8.toNat_add]
  have : (32 : UInt8).toNat = 32 := rfl
  omega

theorem lowB_no (c : UInt8) (h : isB (c.toNat : Int) 3 = false) : lowB c = c := by
  unfold lowB
  rw [if_neg (by simp [h])]

theorem isB3 {c : Int} (h : isB c 3 = true) : 65 ≤ c ∧ c ≤ 90 := by simp [isB] at h; omega

theorem lowL_snoc (s : ByteArray) (k : Nat) (h : k < s.size) : lowL (s.data.toList.take (k + 1)) = lowL (s.data.toList.take k) ++ [lowB s[k]] := by
  rw [take_snoc s k h]; simp [lowL]

/-- The first k made small, the rest as it was. -/
def mixL (l : List UInt8) (k : Nat) : List UInt8 := lowL (l.take k) ++ l.drop k
theorem mixL_length (l : List UInt8) (k : Nat) : (mixL l k).length = l.length := by
  simp only [mixL, lowL, List.length_append, List.length_map, List.length_take, List.length_drop]; omega
theorem mixL_zero (l : List UInt8) : mixL l 0 = l := by simp [mixL, lowL]
theorem mixL_all (l : List UInt8) (k : Nat) (h : l.length ≤ k) : mixL l k = lowL l := by
  simp [mixL, List.take_of_length_le h, List.drop_of_length_le h]
theorem mixL_get (l : List UInt8) (k : Nat) (h : k < l.length) (h' : k < (mixL l k).length) : (mixL l k)[k] = l[k] := by
  have e : (lowL (l.take k)).length = k := by simp only [lowL, List.length_map, List.length_take]; omega
  simp only [mixL]
  rw [List.getElem_append_right (by omega)]
  simp only [e, Nat.sub_self, List.getElem_drop, Nat.add_zero]
theorem mixL_succ (l : List UInt8) (k : Nat) (h : k < l.length) : mixL l (k + 1) = (mixL l k).set k (lowB l[k]) := by
  have e : (lowL (l.take k)).length = k := by simp only [lowL, List.length_map, List.length_take]; omega
  simp only [mixL]
  rw [List.set_append_right _ _ (by omega), e, Nat.sub_self, List.drop_eq_getElem_cons h, List.set_cons_zero, List.take_succ_eq_append_getElem h]
  simp only [lowL, List.map_append, List.map_cons, List.map_nil, List.append_assoc, List.singleton_append]

end Go.Proofs.YtmgikfeknmbpbaaGreatDoor.M
namespace Go.Proofs.YtmgikfeknmbpbaaGreatDoor.M

/-- The digits ahead of the last one. -/
def decAhead (m : Nat) : List UInt8 := if m < 10 then [] else Lib.decDigits (m / 10)
def decLow (m : Nat) : UInt8 := UInt8.ofNat (48 + m % 10)

theorem decDigits_ahead (m : Nat) : Lib.decDigits m = decAhead m ++ [decLow m] := by
  rw [Lib.decDigits]
  unfold decAhead decLow
  by_cases h : m < 10
  · rw [dif_pos h, if_pos h, Nat.mod_eq_of_lt h]; rfl
  · rw [dif_neg h, if_neg h]

theorem decAhead_step (m : Nat) (h : 9 < m) : decAhead m = decAhead (m / 10) ++ [decLow (m / 10)] := by
  rw [← decDigits_ahead]
  unfold decAhead
  rw [if_neg (by omega)]

theorem decAhead_end (m : Nat) (h : ¬ 9 < m) : decAhead m = [] := by
  unfold decAhead
  rw [if_pos (by omega)]

theorem decLow_toNat (m : Nat) : (decLow m).toNat = 48 + m % 10 := by
  unfold decLow
  rw [UInt8.toNat_ofNat']
  omega

/-- A digit to the base 16. -/
def hexCh (d : Nat) : UInt8 := if d < 10 then UInt8.ofNat (48 + d) else UInt8.ofNat (87 + d)
/-- The digits to the base 16, f of them at most. -/
def hexDig : Nat → Nat → List UInt8
  | 0, _ => []
  | f + 1, m => if m < 16 then [hexCh m] else hexDig f (m / 16) ++ [hexCh (m % 16)]
def hexDigits (m : Nat) : List UInt8 := hexDig 16 m
/-- The digits ahead of the last one. -/
def hexAhead (f m : Nat) : List UInt8 := if m < 16 then [] else hexDig f (m / 16)

theorem hexDig_ahead (f m : Nat) : hexDig (f + 1) m = hexAhead f m ++ [hexCh (m % 16)] := by
  unfold hexAhead
  simp only [hexDig]
  by_cases h : m < 16
  · rw [if_pos h, if_pos h, Nat.mod_eq_of_lt h]; rfl
  · rw [if_neg h, if_neg h]

theorem hexAhead_step (f m : Nat) (h : 15 < m) : hexAhead (f + 1) m = hexAhead f (m / 16) ++ [hexCh (m / 16 % 16)] := by
  rw [← hexDig_ahead]
  unfold hexAhead
  rw [if_neg (by omega)]

theorem hexAhead_end (f m : Nat) (h : ¬ 15 < m) : hexAhead f m = [] := by
  unfold hexAhead
  rw [if_pos (by omega)]

theorem hexCh_toNat (d : Nat) (h : d < 16) : (hexCh d).toNat = if d < 10 then 48 + d else 87 + d := by
  unfold hexCh
  split
  · rw [UInt8.toNat_ofNat']; omega
  · rw [UInt8.toNat_ofNat']; omega

end Go.Proofs.YtmgikfeknmbpbaaGreatDoor.M
