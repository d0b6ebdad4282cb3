/-
  The numbers that a draw mixes: no program in sight but the model's own wraps and bits.
  The cursor over the bytes of a draw: what each call does to it.
  A new cursor; what is picked of a list.
  Texts that are drawn.
  The bytes of a draw, and a new cursor on them.
  A cursor, wherever it stands: what is drawn by it, and that all else stays.
  Slices of texts: what they hold, and that it stays.
  Rows of bytes that the call itself made: what string(b) gives of one; where the walk wants it.
  Rows of texts that the call itself made: one more behind, one taken away, what it hands on.
  The draws of names and paths: whatever is drawn, it is a list of few short texts, in memory of its own.
  A row of texts that the call owns, as a list of texts.
  What stands in a walk's context and is not to be used by it.
-/
import Derived.Laws.BitsLemmas
import Derived.Laws.Wrap64
import Derived.WalkKit
import Derived.Test.YtifnolomekhmfaaGreatRows
import Derived.WalkSpells
import Derived.WalkLawsBesides
import Derived.Deep.Light
import Derived.Deep.QuietTactic
import Derived.BigQuiet
import Derived.Deep.OwnRows
import Derived.Lib.BufferWrite
import Derived.Laws.IdiomStrings
import Derived.Laws.BytesArg
import Derived.WalkSmall
import Derived.Laws.OwnMore
import Derived.Deep.AppendLies
import Derived.Below
namespace Go.Proofs.YtifnolomekhmfaaGreat.M
open Go Go.RowKit

theorem i64_and255 (n : Int) : bits .and .i64 n 255 = n % 256 := by
  have h8 : (BitVec.ofInt 64 255).toNat = 2 ^ 8 - 1 := by decide
  have key : (BitVec.ofInt 64 n &&& BitVec.ofInt 64 255).toNat = (n % ((2 ^ 64 : Nat) : Int)).toNat % 2 ^ 8 := by
    rw [BitVec.toNat_and, BitVec.toNat_ofInt, h8, Nat.and_two_pow_sub_one_eq_mod]
  show IntKind.i64.wrap ((BitVec.ofInt 64 n &&& BitVec.ofInt 64 255).toNat : Nat) = n % 256
  rw [key, IntKind.wrap_i64]
  omega

theorem i64_and30 (n : Int) : bits .and .i64 n 1073741823 = n % 1073741824 := by
  have h30 : (BitVec.ofInt 64 1073741823).toNat = 2 ^ 30 - 1 := by decide
  have key : (BitVec.ofInt 64 n &&& BitVec.ofInt 64 1073741823).toNat = (n % ((2 ^ 64 : Nat) : Int)).toNat % 2 ^ 30 := by
    rw [BitVec.toNat_and, BitVec.toNat_ofInt, h30, Nat.and_two_pow_sub_one_eq_mod]
  show IntKind.i64.wrap ((BitVec.ofInt 64 n &&& BitVec.ofInt 64 1073741823).toNat : Nat) = n % 1073741824
  rw [key, IntKind.wrap_i64]
  omega

/-- The next number mixed. -/
def hNext (h : Int) : Int := wrap64 (wrap64 (h * 6364136223846793005) + 1442695040888963407)
/-- The byte that follows from it. -/
def xMix (h : Int) : Int := bits .xor .i64 (hNext h / 8589934592) (hNext h / 140737488355328) % 256
theorem xMix_bd (h : Int) : 0 ≤ xMix h ∧ xMix h ≤ 255 := by unfold xMix; omega

/-- What a draw's byte is, of the bytes zs (the first len of them), the place and the number mixed; and the place behind it. -/
def xByte (zs : List Int) (len : Nat) (i : Nat) (h : Int) : Int := if i < len then (xMix h + zs.getD i 0) % 256 else xMix h
def iNext (len i : Nat) : Nat := if i < len then i + 1 else i
theorem xByte_bd (zs : List Int) (len i : Nat) (h : Int) : 0 ≤ xByte zs len i h ∧ xByte zs len i h ≤ 255 := by
  have := xMix_bd h
  unfold xByte
  split <;> omega
theorem iNext_le {len i : Nat} (h : i ≤ len) : iNext len i ≤ len := by unfold iNext; split <;> omega

/-- The cursor's state: the place and the number mixed. -/
structure St where
  i : Nat
  h : Int

def next (len : Nat) (c : St) : St := ⟨iNext len c.i, hNext c.h⟩

/-- What l1Below draws (n above 0), and the state behind it. -/
def belowV (zs : List Int) (len : Nat) (c : St) (n : Int) : Int :=
  if n ≤ 256 then xByte zs len c.i c.h % n
  else (xByte zs len c.i c.h * 65536 + xByte zs len (next len c).i (next len c).h * 256 + xByte zs len (next len (next len c)).i (next len (next len c)).h) % n
def belowS (len : Nat) (c : St) (n : Int) : St := if n ≤ 256 then next len c else next len (next len (next len c))

theorem belowV_bd (zs : List Int) (len : Nat) (c : St) (n : Int) (hn : 0 < n) : 0 ≤ belowV zs len c n ∧ belowV zs len c n < n := by
  unfold belowV
  split
  · exact ⟨Int.emod_nonneg _ (by omega), Int.emod_lt_of_pos _ hn⟩
  · exact ⟨Int.emod_nonneg _ (by omega), Int.emod_lt_of_pos _ hn⟩

theorem next_le {len : Nat} {c : St} (h : c.i ≤ len) : (next len c).i ≤ len := iNext_le h
theorem belowS_le {len : Nat} {c : St} {n : Int} (h : c.i ≤ len) : (belowS len c n).i ≤ len := by
  unfold belowS
  split
  · exact next_le h
  · exact next_le (next_le (next_le h))

/-- The first state. -/
def mixF (h : Int) (l : List Int) : Int := l.foldl (fun h z => (h * 137 + z + 11) % 1073741824) h
def newS (zs : List Int) (len : Nat) : St := ⟨0, mixF (774774 + (len : Int)) ((zs.take len).take 4000)⟩

theorem mixF_snoc (h : Int) (l : List Int) (z : Int) : mixF h (l ++ [z]) = (mixF h l * 137 + z + 11) % 1073741824 := by simp [mixF]
theorem mixF_bd (h : Int) (l : List Int) (h0 : 0 ≤ h) (h1 : h < 1073741824) : 0 ≤ mixF h l ∧ mixF h l < 1073741824 := by
  induction l generalizing h with
  | nil => exact ⟨h0, h1⟩
  | cons z r ih => exact ih _ (Int.emod_nonneg _ (by omega)) (Int.emod_lt_of_pos _ (by omega))
theorem take_snocZ (zs : List Int) (k : Nat) (h : k < zs.length) : zs.take (k + 1) = zs.take k ++ [zs.getD k 0] := by
  rw [List.take_succ_eq_append_getElem h]
  simp [List.getD_eq_getElem?_getD, List.getElem?_eq_getElem h]

/-- What l1Int and l1Str pick of a list of n. -/
def pick (zs : List Int) (len : Nat) (c : St) (n : Nat) : Nat := (belowV zs len c n).toNat
theorem pick_lt (zs : List Int) (len : Nat) (c : St) (n : Nat) (h : 0 < n) : pick zs len c n < n := by
  have := belowV_bd zs len c n (by omega)
  unfold pick
  omega

end Go.Proofs.YtifnolomekhmfaaGreat.M
namespace Go.Proofs.YtifnolomekhmfaaGreat
open Go.RowKit M

/-- The bytes of a draw, in memory: the first len of zs. -/
structure CodeAt (w : World) (a : Option Addr) (len : Nat) (zs : List Int) : Prop where
  le : len ≤ zs.length
  bd : ∀ j, j < len → 0 ≤ zs.getD j 0 ∧ zs.getD j 0 ≤ 255
  at0 : 0 < len → ∃ b off, a = some ⟨b, off, none⟩ ∧ ∀ j, j < len → w.cell? ⟨b, off + j, none⟩ = some (.int .u8 (zs.getD j 0))

/-- A cursor in block N: the bytes, the place, the number mixed. -/
structure Cur (w : World) (N : Nat) (sl : Value) (c : St) : Prop where
  c0 : w.cell? ⟨N, 0, none⟩ = some sl
  c1 : w.cell? ⟨N, 1, none⟩ = some (.int .i64 c.i)
  c2 : w.cell? ⟨N, 2, none⟩ = some (.int .i64 c.h)
  f1 : w.frozen? ⟨N, 1, none⟩ = false
  f2 : w.frozen? ⟨N, 2, none⟩ = false

theorem grown_trans {a b c : World} {r : Option Nat} (h : a.grownBy b r) (k : b.grownBy c r) : a.grownBy c r :=
  ⟨k.os.trans h.os, k.tape.trans h.tape, k.output.trans h.output, Nat.le_trans h.size k.size, fun i hi hr => (k.block i (Nat.lt_of_lt_of_le hi h.size) hr).trans (h.block i hi hr)⟩
theorem grown_refl (a : World) (r : Option Nat) : a.grownBy a r := ⟨rfl, rfl, rfl, Nat.le_refl _, fun _ _ _ => rfl⟩
theorem grown_drewN {a b : World} {r : Option Nat} (h : a.grownBy b r) (n : Nat) : a.grownBy (b.drewN n) r := ⟨h.os, h.tape, h.output, h.size, h.block⟩
theorem grown_set {a b : World} {N : Nat} (h : a.grownBy b (some N)) (o : Nat) (v : Value) : a.grownBy (b.setCell ⟨N, o, none⟩ v) (some N) := by
  have hb := (Below.refl N b).setCell (p := ⟨N, o, none⟩) (Nat.le_refl _) v
  refine ⟨hb.os.trans h.os, hb.tape.trans h.tape, hb.output.trans h.output, Nat.le_trans h.size hb.size, fun i hi hr => ?_⟩
  rw [← h.block i hi hr]
  have hne : N ≠ i := fun e => hr (by rw [e])
  simp only [World.setCell]
  split
  · simp_all
  · rw [Array.getElem?_modify, if_neg hne]
theorem grown_alloc {a b : World} {r : Option Nat} (h : a.grownBy b r) (o : Obj) : a.grownBy (b.alloc o) r :=
  ⟨h.os, h.tape, h.output, Nat.le_trans h.size (by simp), fun i hi hr => (Below.heap_alloc b o i (Nat.lt_of_lt_of_le hi h.size)).trans (h.block i hi hr)⟩
theorem grown_below {a b : World} {N B : Nat} (h : a.grownBy b (some N)) (hB : B ≤ N) (hBa : B ≤ a.heap.size) : Below B a b :=
  ⟨h.os, h.tape, h.output, h.size, fun k hk => h.block k (by omega) (fun e => by cases e; omega)⟩

theorem Cur.set2 {w : World} {N : Nat} {sl : Value} {c : St} (hc : Cur w N sl c) (h : Int) : Cur (w.setCell ⟨N, 2, none⟩ (.int .i64 h)) N sl ⟨c.i, h⟩ :=
  ⟨by rw [World.cell?_setCell_other _ _ _ _ (by simp)]; exact hc.c0, by rw [World.cell?_setCell_other _ _ _ _ (by simp)]; exact hc.c1, World.cell?_setCell_same _ _ _ hc.c2, by rw [World.frozen?_setCell]; exact hc.f1, by rw [World.frozen?_setCell]; exact hc.f2⟩
theorem Cur.set1 {w : World} {N : Nat} {sl : Value} {c : St} (hc : Cur w N sl c) (i : Nat) (v : Int) (hv : v = (i : Int)) : Cur (w.setCell ⟨N, 1, none⟩ (.int .i64 v)) N sl ⟨i, c.h⟩ := by
  subst hv
  exact ⟨by rw [World.cell?_setCell_other _ _ _ _ (by simp)]; exact hc.c0, World.cell?_setCell_same _ _ _ hc.c1, by rw [World.cell?_setCell_other _ _ _ _ (by simp)]; exact hc.c2, by rw [World.frozen?_setCell]; exact hc.f1, by rw [World.frozen?_setCell]; exact hc.f2⟩
theorem Cur.drewN {w : World} {N : Nat} {sl : Value} {c : St} (hc : Cur w N sl c) (n : Nat) : Cur (w.drewN n) N sl c := ⟨hc.c0, hc.c1, hc.c2, hc.f1, hc.f2⟩

set_option maxHeartbeats 1000000 in
theorem l1Byte_any (N : Nat) (a : Option Addr) (len cap : Nat) (zs : List Int) (c : St) (w : World) (hc : Cur w N (.slice a len cap) c) (hd : CodeAt w a len zs) (hbN : 0 < len → ∀ b off, a = some ⟨b, off, none⟩ → b < N) (hlen : len ≤ 1048576) :
    Calls Tryz.prog 115 #[.pointer (some ⟨N, 0, none⟩)] w fun e w' => e = .returned (.int .i64 (xByte zs len c.i c.h)) ∧ Cur w' N (.slice a len cap) (next len c) ∧ w.grownBy w' (some N) := by
  have HC : Hid (Cur w N (.slice a len cap) c) := hc
  obtain ⟨c0, c1, c2, f1, f2⟩ := hc
  obtain ⟨i, h⟩ := c
  simp only at c1 c2
  by_cases hi : i < len
  · obtain ⟨b, off, rfl, hcell⟩ := hd.at0 (by omega)
    have hb := hd.bd i hi
    have hcx := hcell i hi
    have hi' : (i : Int) < (len : Int) := by omega
    have HX : Hid (xByte zs len i h = (xMix h + zs.getD i 0) % 256) := by unfold xByte; exact if_pos hi
    have HN : Hid (next len ⟨i, h⟩ = ⟨i + 1, hNext h⟩) := by unfold next iNext; rw [if_pos hi]; exact rfl
    clear hd hcell
    generalize zs.getD i 0 = z at hb hcx HX
    obtain ⟨hb0, hb1⟩ := hb
    have hlt := hbN (by omega) b off rfl
    have hcx2 : ∀ v, (w.setCell ⟨N, 2, none⟩ v).cell? ⟨b, off + i, none⟩ = some (.int .u8 z) := fun v => by
      rw [World.cell?_setCell_other _ _ _ _ (fun e => by have := congrArg Addr.block e; simp only at this; omega)]; exact hcx
    clear hbN hlt
    have hx := xMix_bd h
    have HM : Hid (bits BinOp.and IntKind.i64 (bits BinOp.xor IntKind.i64 (wrap64 (wrap64 (h * 6364136223846793005) + 1442695040888963407) / 8589934592) (wrap64 (wrap64 (h * 6364136223846793005) + 1442695040888963407) / 140737488355328)) 255 = xMix h) := by
      show _ = _
      rw [i64_and255]; rfl
    go_enter Tryz.func115, Tryz.ntmps115
    go_wp2
    go_quiet (fail)
    rw [HM.out]
    go_wp2
    go_quiet (fail)
    go_wp2
    go_quiet (fail)
    go_wp2
    go_ret
    refine ⟨?_, ?_, ?_⟩
    · rw [HX.out]
      simp only [i64_and255]
      rfl
    · rw [HN.out]
      exact ((HC.out.set2 _).drewN _).set1 (i + 1) ((i : Int) + 1) (by simp)
    · exact grown_set (grown_drewN (grown_set (grown_refl _ _) _ _) _) _ _
  · have hi' : ¬ (i : Int) < (len : Int) := by omega
    have HX : Hid (xByte zs len i h = xMix h) := by unfold xByte; exact if_neg hi
    have HN : Hid (next len ⟨i, h⟩ = ⟨i, hNext h⟩) := by unfold next iNext; rw [if_neg hi]; exact rfl
    clear hd
    go_enter Tryz.func115, Tryz.ntmps115
    go_wp2
    go_quiet (fail)
    go_wp2
    go_quiet (fail)
    go_wp2
    go_ret
    refine ⟨?_, ?_, grown_drewN (grown_drewN (grown_set (grown_refl _ _) _ _) _) _⟩
    · rw [HX.out]
      simp only [xMix, hNext, i64_and255]
      rfl
    · rw [HN.out]
      exact ((HC.out.set2 _).drewN _).drewN _

theorem cur_le {N : Nat} {w w' : World} (h : w.grownBy w' (some N)) {a : Option Addr} {len : Nat} {zs : List Int} (hd : CodeAt w a len zs) (hbN : 0 < len → ∀ b off, a = some ⟨b, off, none⟩ → b < N) : CodeAt w' a len zs := by
  refine ⟨hd.le, hd.bd, fun h0 => ?_⟩
  obtain ⟨b, off, rfl, hc⟩ := hd.at0 h0
  refine ⟨b, off, rfl, fun j hj => ?_⟩
  refine h.cell (hc j hj) ?_
  have := hbN h0 b off rfl
  simp only [ne_eq, Option.some.injEq]
  omega

set_option maxHeartbeats 1000000 in
theorem l1Below_any (N : Nat) (a : Option Addr) (len cap : Nat) (zs : List Int) (c : St) (n : Int) (w : World) (hc : Cur w N (.slice a len cap) c) (hd : CodeAt w a len zs) (hbN : 0 < len → ∀ b off, a = some ⟨b, off, none⟩ → b < N) (hlen : len ≤ 1048576) (hn : 0 < n) (hn2 : n ≤ 1000000) :
    Calls Tryz.prog 66 #[.pointer (some ⟨N, 0, none⟩), .int .i64 n] w fun e w' => e = .returned (.int .i64 (belowV zs len c n)) ∧ Cur w' N (.slice a len cap) (belowS len c n) ∧ w.grownBy w' (some N) := by
  have HB : Hid (0 < len → ∀ b off, a = some ⟨b, off, none⟩ → b < N) := hbN
  have HC : Hid (Cur w N (.slice a len cap) c) := hc
  have HD : Hid (CodeAt w a len zs) := hd
  clear hbN hc hd
  have hn' : ¬ n ≤ 0 := by omega
  have hx1 := xByte_bd zs len c.i c.h
  by_cases h256 : n ≤ 256
  · have HV : Hid (belowV zs len c n = xByte zs len c.i c.h % n) := by unfold belowV; exact if_pos h256
    have HS : Hid (belowS len c n = next len c) := by unfold belowS; exact if_pos h256
    go_enter Tryz.func66, Tryz.ntmps66
    go_wp2_with (go_at_call 115; refine (l1Byte_any N a len cap zs c _ HC.out HD.out HB.out hlen).mono ?_; rintro e w1 ⟨rfl, hc1, hg1⟩)
    go_ret
    exact ⟨by rw [HV.out]; rfl, by rw [HS.out]; exact hc1, hg1⟩
  · have HV : Hid (belowV zs len c n = (xByte zs len c.i c.h * 65536 + xByte zs len (next len c).i (next len c).h * 256 + xByte zs len (next len (next len c)).i (next len (next len c)).h) % n) := by unfold belowV; exact if_neg h256
    have HS : Hid (belowS len c n = next len (next len (next len c))) := by unfold belowS; exact if_neg h256
    have hx2 := xByte_bd zs len (next len c).i (next len c).h
    have hx3 := xByte_bd zs len (next len (next len c)).i (next len (next len c)).h
    go_enter Tryz.func66, Tryz.ntmps66
    go_wp2_with fail
    refine (l1Byte_any N a len cap zs c _ HC.out HD.out HB.out hlen).mono ?_
    rintro e w1 ⟨rfl, hc1, hg1⟩
    have HC1 : Hid (Cur w1 N (.slice a len cap) (next len c)) := hc1
    clear hc1
    go_wp2_with fail
    refine (l1Byte_any N a len cap zs (next len c) _ HC1.out (cur_le hg1 HD.out HB.out) HB.out hlen).mono ?_
    rintro e w2 ⟨rfl, hc2, hg2⟩
    have HC2 : Hid (Cur w2 N (.slice a len cap) (next len (next len c))) := hc2
    clear hc2
    go_wp2_with fail
    refine (l1Byte_any N a len cap zs (next len (next len c)) _ HC2.out (cur_le (grown_trans hg1 hg2) HD.out HB.out) HB.out hlen).mono ?_
    rintro e w3 ⟨rfl, hc3, hg3⟩
    go_wp2
    go_ret
    exact ⟨by rw [HV.out]; rfl, by rw [HS.out]; exact hc3, grown_trans (grown_trans hg1 hg2) hg3⟩
end Go.Proofs.YtifnolomekhmfaaGreat
namespace Go.Proofs.YtifnolomekhmfaaGreat
open Go.RowKit M

theorem cur_new (w : World) (sl : Value) (m : Int) (T : TypeId) : Cur (w.alloc (Obj.cells #[sl, .int .i64 0, .int .i64 m] T)) w.heap.size sl ⟨0, m⟩ :=
  ⟨by simp, by simp, by simp, by simp, by simp⟩

set_option maxHeartbeats 1000000 in
set_option maxRecDepth 100000 in
theorem l1New_any (a : Option Addr) (len cap : Nat) (zs : List Int) (w : World) (hd : CodeAt w a len zs) (hlen : len ≤ 1048576) :
    Calls Tryz.prog 52 #[.slice a len cap] w fun e w' => e = .returned (.pointer (some ⟨w.heap.size, 0, none⟩)) ∧ Cur w' w.heap.size (.slice a len cap) (newS zs len) ∧ Below w.heap.size w w' ∧ w'.heap.size = w.heap.size + 1 := by
  have HD : Hid (CodeAt w a len zs) := hd
  have hle := hd.le
  clear hd
  go_enter Tryz.func52, Tryz.ntmps52
  go_wp2
  go_loop [3, 4] (fun h i => ∃ k : Nat, k ≤ len ∧ k ≤ 4000 ∧ i = .int .i64 k ∧ h = .int .i64 (mixF (774774 + (len : Int)) (zs.take k))) (fun _ i => len - (intOf i).toNat)
  case atStart => exact ⟨0, Nat.zero_le _, Nat.zero_le _, rfl, rfl⟩
  case round =>
    obtain ⟨k, hk, hk4, rfl, rfl⟩ := hrel
    have hm := mixF_bd (774774 + (len : Int)) (zs.take k) (by omega) (by omega)
    by_cases hlt : k < len
    · by_cases h4 : k < 4000
      · obtain ⟨b, off, rfl, hcell⟩ := HD.out.at0 (by omega)
        have hcx := hcell k hlt
        have hb := HD.out.bd k hlt
        have HS : Hid (mixF (774774 + (len : Int)) (zs.take (k + 1)) = (mixF (774774 + (len : Int)) (zs.take k) * 137 + zs.getD k 0 + 11) % 1073741824) := by
          show _ = _
          rw [take_snocZ zs k (by omega), mixF_snoc]
        clear hcell
        obtain ⟨m, hmm⟩ : ∃ m, m = mixF (774774 + (len : Int)) (zs.take k) := ⟨_, rfl⟩
        rw [← hmm] at hm HS ⊢
        clear hmm
        generalize zs.getD k 0 = z at hcx hb HS
        go_wp2
        go_round
        case rel =>
          refine ⟨k + 1, by omega, by omega, by go_num, ?_⟩
          rw [HS.out]
          simp only [i64_and30]
        case measure => simp [intOf]; omega
      · have e4 : newS zs len = ⟨0, mixF (774774 + (len : Int)) (zs.take k)⟩ := by
          unfold newS
          rw [List.take_take, show min 4000 len = k by omega]
        have HE : Hid (newS zs len = ⟨0, mixF (774774 + (len : Int)) (zs.take k)⟩) := e4
        clear e4
        obtain ⟨m, hmm⟩ : ∃ m, m = mixF (774774 + (len : Int)) (zs.take k) := ⟨_, rfl⟩
        rw [← hmm] at hm HE ⊢
        clear hmm
        go_wp2
        go_ret
        exact ⟨rfl, by rw [HE.out]; exact cur_new _ _ _ _, (Below.refl _ _).alloc (Nat.le_refl _) _, by simp⟩
    · have e4 : newS zs len = ⟨0, mixF (774774 + (len : Int)) (zs.take k)⟩ := by
        unfold newS
        rw [List.take_take, show min 4000 len = k by omega]
      have HE : Hid (newS zs len = ⟨0, mixF (774774 + (len : Int)) (zs.take k)⟩) := e4
      clear e4
      obtain ⟨m, hmm⟩ : ∃ m, m = mixF (774774 + (len : Int)) (zs.take k) := ⟨_, rfl⟩
      rw [← hmm] at hm HE ⊢
      clear hmm
      go_wp2
      go_ret
      exact ⟨rfl, by rw [HE.out]; exact cur_new _ _ _ _, (Below.refl _ _).alloc (Nat.le_refl _) _, by simp⟩

set_option maxHeartbeats 400000 in
theorem l1Str_any (N M : Nat) (a : Option Addr) (len cap n : Nat) (zs : List Int) (ss : List ByteArray) (c : St) (w : World) (hc : Cur w N (.slice a len cap) c) (hd : CodeAt w a len zs) (hbN : 0 < len → ∀ b off, a = some ⟨b, off, none⟩ → b < N) (hlen : len ≤ 1048576) (hn : 0 < n) (hn2 : n ≤ 256) (hMN : M ≠ N)
    (hls : ∀ j, j < n → w.cell? ⟨M, j, none⟩ = some (.string (ss.getD j ByteArray.empty))) :
    Calls Tryz.prog 65 #[.pointer (some ⟨N, 0, none⟩), .slice (some ⟨M, 0, none⟩) n n] w fun e w' => e = .returned (.string (ss.getD (pick zs len c n) ByteArray.empty)) ∧ Cur w' N (.slice a len cap) (belowS len c n) ∧ w.grownBy w' (some N) := by
  have HB : Hid (Calls Tryz.prog 66 #[.pointer (some ⟨N, 0, none⟩), .int .i64 (n : Int)] w fun e w' => e = .returned (.int .i64 (belowV zs len c n)) ∧ Cur w' N (.slice a len cap) (belowS len c n) ∧ w.grownBy w' (some N)) :=
    l1Below_any N a len cap zs c n w hc hd hbN hlen (by omega) (by omega)
  have HL : Hid (∀ j, j < n → w.cell? ⟨M, j, none⟩ = some (.string (ss.getD j ByteArray.empty))) := hls
  have hp := pick_lt zs len c n hn
  have ep : belowV zs len c n = (pick zs len c n : Int) := by
    have := belowV_bd zs len c n (by omega)
    unfold pick
    omega
  rw [ep] at HB
  clear hbN hc hd hls ep
  generalize pick zs len c n = p at *
  go_enter Tryz.func65, Tryz.ntmps65
  go_wp2_with fail
  refine HB.out.mono ?_
  rintro e w1 ⟨rfl, hc1, hg1⟩
  have hcx : w1.cell? ⟨M, p, none⟩ = some (.string (ss.getD p ByteArray.empty)) := hg1.cell (HL.out p hp) (by simpa using hMN)
  have HC1 : Hid (Cur w1 N (.slice a len cap) (belowS len c n)) := hc1
  have HG1 : Hid (w.grownBy w1 (some N)) := hg1
  clear hc1 hg1 HL
  go_wp2
  go_ret
  exact ⟨rfl, HC1.out, HG1.out⟩
end Go.Proofs.YtifnolomekhmfaaGreat
namespace Go.Proofs.YtifnolomekhmfaaGreat
open Go.RowKit M

/-- All that a call on a cursor in block N wants. -/
structure DC (w : World) (N : Nat) (a : Option Addr) (len cap : Nat) (zs : List Int) (c : St) : Prop where
  cur : Cur w N (.slice a len cap) c
  code : CodeAt w a len zs
  bN : 0 < len → ∀ b off, a = some ⟨b, off, none⟩ → b < N
  hlen : len ≤ 1048576
  lt : N < w.heap.size

theorem DC.grown {w w' : World} {N : Nat} {a : Option Addr} {len cap : Nat} {zs : List Int} {c c' : St} (h : DC w N a len cap zs c) (hg : w.grownBy w' (some N)) (hc : Cur w' N (.slice a len cap) c') : DC w' N a len cap zs c' :=
  ⟨hc, cur_le hg h.code h.bN, h.bN, h.hlen, Nat.lt_of_lt_of_le h.lt hg.size⟩

theorem DC.alloc {w : World} {N : Nat} {a : Option Addr} {len cap : Nat} {zs : List Int} {c : St} (h : DC w N a len cap zs c) (o : Obj) : DC (w.alloc o) N a len cap zs c := by
  have hg : w.grownBy (w.alloc o) (some N) := grown_alloc (grown_refl _ _) o
  refine ⟨⟨?_, ?_, ?_, ?_, ?_⟩, cur_le hg h.code h.bN, h.bN, h.hlen, Nat.lt_of_lt_of_le h.lt hg.size⟩
  · exact (World.cell?_alloc_past o N 0 h.lt).trans h.cur.c0
  · exact (World.cell?_alloc_past o N 1 h.lt).trans h.cur.c1
  · exact (World.cell?_alloc_past o N 2 h.lt).trans h.cur.c2
  · exact (World.frozen?_alloc_past o N 1 h.lt).trans h.cur.f1
  · exact (World.frozen?_alloc_past o N 2 h.lt).trans h.cur.f2

theorem row_strs (w : World) (ss : List ByteArray) (T : TypeId) (C : Array Value) (n : Nat) (hC : C = (ss.map Value.string).toArray) (hn : ss.length = n) : ∀ j, j < n → (w.alloc (.cells C T)).cell? ⟨w.heap.size, j, none⟩ = some (.string (ss.getD j ByteArray.empty)) := by
  subst hC hn
  intro j hj
  rw [World.cell?_alloc_new]
  simp [List.getD_eq_getElem?_getD, List.getElem?_eq_getElem hj]

/-- l1Str at a list that was just built. -/
theorem strNew {w : World} {N : Nat} {a : Option Addr} {len cap : Nat} {zs : List Int} {c : St} (h : DC w N a len cap zs c) (ss : List ByteArray) (C : Array Value) (T : TypeId) (n M : Nat) (hM : M = w.heap.size) (hC : C = (ss.map Value.string).toArray) (hn : ss.length = n) (h0 : 0 < n) (h1 : n ≤ 256) :
    Calls Tryz.prog 65 #[.pointer (some ⟨N, 0, none⟩), .slice (some ⟨M, 0, none⟩) n n] (w.alloc (.cells C T)) fun e w' => e = .returned (.string (ss.getD (pick zs len c n) ByteArray.empty)) ∧ DC w' N a len cap zs (belowS len c n) ∧ w.grownBy w' (some N) := by
  subst hM
  have hA := h.alloc (.cells C T)
  refine (l1Str_any N w.heap.size a len cap n zs ss c _ hA.cur hA.code h.bN h.hlen h0 h1 (by have := h.lt; omega) (row_strs w ss T C n hC hn)).mono ?_
  rintro e w1 ⟨rfl, hc1, hg1⟩
  exact ⟨rfl, hA.grown hg1 hc1, grown_trans (grown_alloc (grown_refl _ _) _) hg1⟩

def textL : List ByteArray := [⟨#[]⟩, ⟨#[97]⟩, ⟨#[98]⟩, ⟨#[97, 98]⟩, ⟨#[97, 45, 98]⟩, ⟨#[65, 98]⟩, ⟨#[32, 97, 32]⟩, ⟨#[120, 49]⟩, ⟨#[116, 119, 101, 110, 116, 121, 45, 111, 110, 101, 45, 115, 109, 97, 108, 108, 45, 116, 101, 120, 116]⟩, ⟨#[97, 32, 98]⟩, ⟨#[9]⟩, ⟨#[127]⟩, ⟨#[49, 97]⟩, ⟨#[45, 97]⟩, ⟨#[60, 97, 38, 98, 62]⟩, ⟨#[34, 113, 34]⟩]
def textV (zs : List Int) (len : Nat) (c : St) : ByteArray := textL.getD (pick zs len c 16) ByteArray.empty
end Go.Proofs.YtifnolomekhmfaaGreat
namespace Go.Proofs.YtifnolomekhmfaaGreat
open Go.RowKit M

/-- The bytes of a draw, in old memory. -/
structure CodeIn (w : World) (B : Nat) (a : Option Addr) (len : Nat) (zs : List Int) : Prop where
  code : CodeAt w a len zs
  bB : 0 < len → ∀ b off, a = some ⟨b, off, none⟩ → b < B
  hlen : len ≤ 1048576
  hB : B ≤ w.heap.size

theorem CodeIn.below {w w' : World} {B : Nat} {a : Option Addr} {len : Nat} {zs : List Int} (h : CodeIn w B a len zs) (hb : Below B w w') : CodeIn w' B a len zs := by
  refine ⟨⟨h.code.le, h.code.bd, fun h0 => ?_⟩, h.bB, h.hlen, Nat.le_trans h.hB hb.size⟩
  obtain ⟨b, off, rfl, hc⟩ := h.code.at0 h0
  refine ⟨b, off, rfl, fun j hj => ?_⟩
  exact (hb.cell (p := ⟨b, off + j, none⟩) (h.bB h0 b off rfl)).trans (hc j hj)

/-- A new cursor over them. -/
theorem newDC {w : World} {B : Nat} {a : Option Addr} {len : Nat} {zs : List Int} (h : CodeIn w B a len zs) (cap : Nat) :
    Calls Tryz.prog 52 #[.slice a len cap] w fun e w' => e = .returned (.pointer (some ⟨w.heap.size, 0, none⟩)) ∧ DC w' w.heap.size a len cap zs (newS zs len) ∧ Below w.heap.size w w' := by
  refine (l1New_any a len cap zs w h.code h.hlen).mono ?_
  rintro e w1 ⟨rfl, hc, hb, hs⟩
  have h1 := h.below (hb.mono h.hB)
  exact ⟨rfl, ⟨hc, h1.code, fun h0 b off e => Nat.lt_of_lt_of_le (h.bB h0 b off e) h.hB, h.hlen, by omega⟩, hb⟩

theorem dc_below {w w1 w2 : World} (hb : Below w.heap.size w w1) (hg : w1.grownBy w2 (some w.heap.size)) : Below w.heap.size w w2 :=
  hb.trans (grown_below hg (Nat.le_refl _) hb.size)

theorem getD_mem {α : Type} (l : List α) (i : Nat) (d : α) (p : α → Prop) (h : ∀ x ∈ l, p x) (hd : p d) : p (l.getD i d) := by
  rw [List.getD_eq_getElem?_getD]
  cases e : l[i]? with
  | none => exact hd
  | some x => exact h x (List.mem_of_getElem? e)

theorem textV_le (zs : List Int) (len : Nat) (c : St) : (textV zs len c).size ≤ 100 :=
  getD_mem textL _ _ (fun s => s.size ≤ 100) (by decide) (by decide)
end Go.Proofs.YtifnolomekhmfaaGreat
namespace Go.Proofs.YtifnolomekhmfaaGreat
open Go.RowKit M
set_option linter.unusedVariables false

/-- A cursor in block N, wherever it stands. -/
def DX (w : World) (N : Nat) (a : Option Addr) (len cap : Nat) (zs : List Int) : Prop := ∃ c, DC w N a len cap zs c

theorem DX.alloc {w : World} {N : Nat} {a : Option Addr} {len cap : Nat} {zs : List Int} (h : DX w N a len cap zs) (o : Obj) : DX (w.alloc o) N a len cap zs := by
  obtain ⟨c, h⟩ := h; exact ⟨c, h.alloc o⟩

theorem l1BelowX {w : World} {N : Nat} {a : Option Addr} {len cap : Nat} {zs : List Int} (h : DX w N a len cap zs) (n : Int) (hn : 0 < n) (hn2 : n ≤ 1000000) :
    Calls Tryz.prog 66 #[.pointer (some ⟨N, 0, none⟩), .int .i64 n] w fun e w' => (∃ k : Nat, e = .returned (.int .i64 k) ∧ (k : Int) < n) ∧ DX w' N a len cap zs ∧ w.grownBy w' (some N) := by
  obtain ⟨c, h⟩ := h
  refine (l1Below_any N a len cap zs c n w h.cur h.code h.bN h.hlen hn hn2).mono ?_
  rintro e w1 ⟨rfl, hc1, hg1⟩
  have hb := belowV_bd zs len c n hn
  exact ⟨⟨(belowV zs len c n).toNat, by rw [Int.toNat_of_nonneg hb.1], by rw [Int.toNat_of_nonneg hb.1]; exact hb.2⟩, ⟨_, h.grown hg1 hc1⟩, hg1⟩

/-- The cursor stands where another row of the call's own has grown. -/
theorem DX.other {w w' : World} {N : Nat} {a : Option Addr} {len cap : Nat} {zs : List Int} (h : DX w N a len cap zs) (hs : w.heap.size ≤ w'.heap.size) (hk : ∀ k, k ≤ N → w'.heap[k]? = w.heap[k]?) : DX w' N a len cap zs := by
  obtain ⟨c, h⟩ := h
  have hc : ∀ p : Addr, p.block ≤ N → w'.cell? p = w.cell? p := fun p hp => World.cell?_of_block (w := w) (hk p.block hp)
  have hf : ∀ p : Addr, p.block ≤ N → w'.frozen? p = w.frozen? p := fun p hp => World.frozen?_of_block (w := w) (hk p.block hp)
  refine ⟨c, ⟨⟨?_, ?_, ?_, ?_, ?_⟩, ?_, h.bN, h.hlen, Nat.lt_of_lt_of_le h.lt hs⟩⟩
  · rw [hc _ (Nat.le_refl _)]; exact h.cur.c0
  · rw [hc _ (Nat.le_refl _)]; exact h.cur.c1
  · rw [hc _ (Nat.le_refl _)]; exact h.cur.c2
  · rw [hf _ (Nat.le_refl _)]; exact h.cur.f1
  · rw [hf _ (Nat.le_refl _)]; exact h.cur.f2
  · refine ⟨h.code.le, h.code.bd, fun h0 => ?_⟩
    obtain ⟨b, off, e, hcc⟩ := h.code.at0 h0
    have hb := h.bN h0 b off e
    exact ⟨b, off, e, fun j hj => by rw [hc ⟨b, off + j, none⟩ (by show b ≤ N; omega)]; exact hcc j hj⟩

theorem grown_past {w w1 w2 : World} {r : Option Nat} (h : w.grownBy w1 r) (hb : Below w.heap.size w1 w2) : w.grownBy w2 r :=
  ⟨hb.os.trans h.os, hb.tape.trans h.tape, hb.output.trans h.output, Nat.le_trans h.size hb.size, fun k hk hne => (hb.block k hk).trans (h.block k hk hne)⟩

theorem strNewX {w : World} {N : Nat} {a : Option Addr} {len cap : Nat} {zs : List Int} (h : DX w N a len cap zs) (ss : List ByteArray) (C : Array Value) (T : TypeId) (n M : Nat) (hM : M = w.heap.size) (hC : C = (ss.map Value.string).toArray) (hn : ss.length = n) (h0 : 0 < n) (h1 : n ≤ 256) (hz : ∀ s ∈ ss, s.size ≤ 20) :
    Calls Tryz.prog 65 #[.pointer (some ⟨N, 0, none⟩), .slice (some ⟨M, 0, none⟩) n n] (w.alloc (.cells C T)) fun e w' => (∃ s : ByteArray, e = .returned (.string s) ∧ s.size ≤ 20) ∧ DX w' N a len cap zs ∧ w.grownBy w' (some N) := by
  obtain ⟨c, h⟩ := h
  refine (strNew h ss C T n M hM hC hn h0 h1).mono ?_
  rintro e w1 ⟨rfl, hd, hg⟩
  exact ⟨⟨_, rfl, getD_mem ss _ _ (fun s => s.size ≤ 20) hz (by decide)⟩, ⟨_, hd⟩, hg⟩

theorem DX.lt {w : World} {N : Nat} {a : Option Addr} {len cap : Nat} {zs : List Int} (h : DX w N a len cap zs) : N < w.heap.size := by obtain ⟨c, h⟩ := h; exact h.lt

theorem newDX {w : World} {B : Nat} {a : Option Addr} {len : Nat} {zs : List Int} (h : CodeIn w B a len zs) (cap : Nat) :
    Calls Tryz.prog 52 #[.slice a len cap] w fun e w' => e = .returned (.pointer (some ⟨w.heap.size, 0, none⟩)) ∧ DX w' w.heap.size a len cap zs ∧ Below w.heap.size w w' := by
  refine (newDC h cap).mono ?_
  rintro e w1 ⟨rfl, hd, hb⟩
  exact ⟨rfl, ⟨_, hd⟩, hb⟩
end Go.Proofs.YtifnolomekhmfaaGreat
namespace Go.Proofs.YtifnolomekhmfaaGreat
open Go.RowKit

/-- The texts that a slice holds, in a block below B. -/
def Strs (w : World) (B : Nat) (a : Option Addr) (ss : List ByteArray) : Prop :=
  0 < ss.length → ∃ b o, a = some ⟨b, o, none⟩ ∧ b < B ∧ ∀ j (hj : j < ss.length), w.cell? ⟨b, o + j, none⟩ = some (.string ss[j])

theorem Strs.below {w w' : World} {B C : Nat} {a : Option Addr} {ss : List ByteArray} (h : Strs w B a ss) (hb : Below C w w') (hB : B ≤ C) : Strs w' B a ss := fun h0 => by
  obtain ⟨b, o, e, hbB, hc⟩ := h h0
  exact ⟨b, o, e, hbB, fun j hj => (hb.cell (p := ⟨b, o + j, none⟩) (Nat.lt_of_lt_of_le hbB hB)).trans (hc j hj)⟩

theorem Strs.mono {w : World} {B C : Nat} {a : Option Addr} {ss : List ByteArray} (h : Strs w B a ss) (hB : B ≤ C) : Strs w C a ss := fun h0 => by
  obtain ⟨b, o, e, hbB, hc⟩ := h h0
  exact ⟨b, o, e, Nat.lt_of_lt_of_le hbB hB, hc⟩

theorem Strs.take {w : World} {B : Nat} {a : Option Addr} {ss : List ByteArray} (h : Strs w B a ss) (k : Nat) : Strs w B a (ss.take k) := fun h0 => by
  have hl : (ss.take k).length ≤ ss.length := by rw [List.length_take]; omega
  obtain ⟨b, o, e, hbB, hc⟩ := h (by omega)
  exact ⟨b, o, e, hbB, fun j hj => by rw [hc j (by omega), List.getElem_take]⟩

theorem info_str : (Tryz.prog.info? 9).map (fun i => (i.zero, i.size, i.bytes)) = some (some (.string ByteArray.empty), 1, 16) := by kernel_rfl

/-- A row of texts that the call made, as a slice. -/
theorem Strs.row {w : World} {N n C : Nat} {ss : List ByteArray} {f : Nat → Value} (h : w.rowIs N 9 n f) (hn : ss.length ≤ n) (hf : ∀ j (hj : j < ss.length), f j = .string ss[j]) (hN : N < C) : Strs w C (some ⟨N, 0, none⟩) ss := fun _ =>
  ⟨N, 0, rfl, hN, fun j hj => by rw [Nat.zero_add, h.cell (by omega), hf j hj]⟩

/-- All of them short enough. -/
def Short (ss : List ByteArray) : Prop := ∀ s ∈ ss, s.size ≤ maxLen
theorem Short.at {ss : List ByteArray} (h : Short ss) (k : Nat) (hk : k < ss.length) : (ss[k]).size ≤ maxLen := h _ (List.getElem_mem hk)

def sumS (ss : List ByteArray) : Nat := (ss.map (·.size)).sum
theorem sumS_snoc (ss : List ByteArray) (k : Nat) (hk : k < ss.length) : sumS (ss.take (k + 1)) = sumS (ss.take k) + (ss[k]).size := by
  unfold sumS
  rw [List.take_succ_eq_append_getElem hk, List.map_append, List.sum_append]
  simp only [List.map_cons, List.map_nil, List.sum_cons, List.sum_nil, Nat.add_zero]
theorem sumS_all (ss : List ByteArray) (k : Nat) (hk : ¬ k < ss.length) : ss.take k = ss := List.take_of_length_le (by omega)
theorem sumS_mem (ss : List ByteArray) (s : ByteArray) (h : s ∈ ss) : s.size ≤ sumS ss := by
  induction ss with
  | nil => cases h
  | cons x l ih =>
    simp only [sumS, List.map_cons, List.sum_cons] at *
    rcases List.mem_cons.1 h with rfl | h
    · omega
    · have := ih h; omega

theorem str_inj {a b : ByteArray} (h : a.toList = b.toList) : a = b := by
  rw [ByteArray.toList_eq, ByteArray.toList_eq] at h
  exact ByteArray.ext (Array.ext' h)

/-- Whether two lists of texts are the same. -/
def sameL (ss tt : List ByteArray) : Bool := decide (ss = tt)
theorem sameL_refl (ss : List ByteArray) : sameL ss ss = true := by simp [sameL]
theorem sameL_len {ss tt : List ByteArray} (h : ¬ ss.length = tt.length) : sameL ss tt = false := by
  simp only [sameL, decide_eq_false_iff_not]; intro e; exact h (by rw [e])
theorem sameL_not {ss tt : List ByteArray} (k : Nat) (h1 : k < ss.length) (h2 : k < tt.length) (h : ¬ ss[k] = tt[k]) : sameL ss tt = false := by
  simp only [sameL, decide_eq_false_iff_not]; intro e; subst e; exact h rfl
theorem sameL_all {ss tt : List ByteArray} (hl : ss.length = tt.length) (k : Nat) (hk : ¬ k < ss.length) (h : ss.take k = tt.take k) : sameL ss tt = true := by
  rw [List.take_of_length_le (by omega), List.take_of_length_le (by omega)] at h
  simp [sameL, h]
theorem take_same {ss tt : List ByteArray} (k : Nat) (h1 : k < ss.length) (h2 : k < tt.length) (h0 : ss.take k = tt.take k) (h : ss[k] = tt[k]) : ss.take (k + 1) = tt.take (k + 1) := by
  rw [List.take_succ_eq_append_getElem h1, List.take_succ_eq_append_getElem h2, h0, h]
end Go.Proofs.YtifnolomekhmfaaGreat
namespace Go.Proofs.YtifnolomekhmfaaGreat
open Go.RowKit

theorem ret_str {l m : List UInt8} (h : l = m) : Ending.returned (.string ⟨l.toArray⟩) = .returned (.string ⟨m.toArray⟩) := by rw [h]

/-- 'string(b)' of a row of bytes that the call owns: its bytes; the world is as it was. -/
theorem conv_own {w : World} {B n : Nat} {v : Value} {l : List UInt8} (h : w.ownsRow B 5 1 v n (Lib.byteCells l)) :
    (convert 22 9 v).run Tryz.prog w = .ok (.string ⟨l.toArray⟩) w := by
  have hn : n = l.length := by have := h.1; rw [Lib.byteCells_length] at this; omega
  subst hn
  rcases h.2 with ⟨rfl, h0⟩ | ⟨g, cap, cur, rfl, _, hg, _, _, _, htk⟩
  · have : l = [] := List.length_eq_zero_iff.1 h0
    subst this
    exact run_convert_bytes_nil w 22 5 Tryz.underlying22 Tryz.underlying5 0 0 9 Tryz.underlying9
  · refine run_convert_bytes_back w 22 9 5 _ cap l Tryz.underlying22 Tryz.underlying5 Tryz.underlying9 ?_
    intro j hj
    exact h.cells (g := g) rfl j _ (by simp [Lib.byteCells, List.getElem?_eq_getElem hj])

/-- What grew by writes to a row that the call owns is as it was below. -/
theorem below_grown {w w' : World} {B n : Nat} {e : TypeId} {v : Value} {xs : List Value} (h : w.ownsRow B e 1 v n xs) (hB : B ≤ w.heap.size) (hg : w.grownBy w' v.ownBlock) : Below B w w' :=
  ⟨hg.os, hg.tape, hg.output, hg.size, fun k hk => hg.block k (Nat.lt_of_lt_of_le hk hB) (fun e => by have := h.lt k e.symm; omega)⟩

theorem info_byte : (Tryz.prog.info? 5).map (fun i => (i.zero, i.size, i.bytes)) = some (some (.int .u8 0), 1, 1) := by kernel_rfl

/-- 'b = append(b, c)' on a row of bytes that the call owns. -/
theorem wp_append_byte {w : World} {ops : Array Oper} {rest : List Oper} {o : Oper} {a : Act} {Q : Exit → Act → World → Prop} (hgd : o.guard = none) (s x : Operand)
    (ho : o.op = .call { callee := .builtin .append, args := #[s, x], argTypes := #[22, 22] })
    (B : Nat) (v : Value) (n : Nat) (l : List UInt8) (hs : a.eval s = v) (hown : w.ownsRow B 5 1 v n (Lib.byteCells l))
    (ad : Addr) (c : UInt8) (hx : a.eval x = .slice (some ad) 1 1) (hcell : w.cell? ad = some (.int .u8 c.toNat)) (hlen : n + 1 ≤ 140737488355328) (hB : B ≤ w.heap.size)
    (h : ∀ v' w', w'.ownsRow B 5 1 v' (n + 1) (Lib.byteCells (l ++ [c])) → Below B w w' → wpList Tryz.prog ops Q rest (a.put o.dst v') w') : wpList Tryz.prog ops Q (o :: rest) a w := by
  obtain ⟨i0, hi, hz0, hz1, hz2⟩ := info_parts info_byte
  refine wpList_append_own w hgd s x 22 ho B 5 i0 (.int .u8 0) 1 1 Tryz.underlying22 hi hz0 hz1 hz2 rfl (by decide) v n _ hs hown ad 1 1 [.int .u8 c.toNat] hx rfl ?_ ?_ ?_ ?_ hB ?_
  · intro j u hj
    match j, hj with
    | 0, hj =>
      simp at hj; subst hj
      have : ad.add 0 = ad := by unfold Addr.add; split <;> simp_all
      rw [this]; exact hcell
  · intro u hu; simp at hu; subst hu; rfl
  · unfold maxLen; omega
  · omega
  · intro v' w' ho' hg _
    refine h v' w' ?_ (below_grown hown hB hg)
    rw [Lib.byteCells_append]
    exact ho'

/-- A row of bytes in block N, none of them frozen. -/
def RowAt (w : World) (N : Nat) (l : List UInt8) : Prop := ∀ j (hj : j < l.length), w.cell? ⟨N, j, none⟩ = some (.int .u8 l[j].toNat) ∧ w.frozen? ⟨N, j, none⟩ = false

theorem RowAt.alloc {w : World} {N : Nat} {l : List UInt8} (h : RowAt w N l) (hN : N < w.heap.size) (o : Obj) : RowAt (w.alloc o) N l := fun j hj =>
  ⟨(World.cell?_alloc_past o N j hN).trans (h j hj).1, (World.frozen?_alloc_past o N j hN).trans (h j hj).2⟩

theorem RowAt.set {w : World} {N : Nat} {l : List UInt8} (h : RowAt w N l) (k : Nat) (hk : k < l.length) (c : UInt8) : RowAt (w.setCell ⟨N, k, none⟩ (.int .u8 c.toNat)) N (l.set k c) := by
  intro j hj
  have hj' : j < l.length := by simpa using hj
  refine ⟨?_, by rw [World.frozen?_setCell]; exact (h j hj').2⟩
  by_cases e : k = j
  · subst e
    rw [World.cell?_setCell_same _ _ _ (h k hk).1]
    simp
  · have hne : (⟨N, k, none⟩ : Addr) ≠ ⟨N, j, none⟩ := fun e' => e (congrArg Addr.off e')
    rw [World.cell?_setCell_other _ _ _ _ hne, (h j hj').1]
    simp [e]

/-- 'string(b)' of such a row. -/
theorem conv_row {w : World} {N n cap : Nat} {l : List UInt8} (h : RowAt w N l) (hn : l.length = n) :
    (convert 22 9 (.slice (some ⟨N, 0, none⟩) n cap)).run Tryz.prog w = .ok (.string ⟨l.toArray⟩) w := by
  subst hn
  refine run_convert_bytes_back w 22 9 5 _ cap l Tryz.underlying22 Tryz.underlying5 Tryz.underlying9 ?_
  intro j hj
  have : (⟨N, 0, none⟩ : Addr).add j = ⟨N, j, none⟩ := by
    unfold Addr.add; split <;> simp_all
  rw [this]; exact (h j hj).1

/-- 'string(b)' of the end of such a row. -/
theorem conv_at {w : World} {N o n cap : Nat} {pre l : List UInt8} (h : RowAt w N (pre ++ l)) (ho : pre.length = o) (hn : l.length = n) :
    (convert 22 9 (.slice (some ⟨N, o, none⟩) n cap)).run Tryz.prog w = .ok (.string ⟨l.toArray⟩) w := by
  subst hn ho
  refine run_convert_bytes_back w 22 9 5 _ cap l Tryz.underlying22 Tryz.underlying5 Tryz.underlying9 ?_
  intro j hj
  have e : (⟨N, pre.length, none⟩ : Addr).add j = ⟨N, pre.length + j, none⟩ := by
    unfold Addr.add; split <;> simp_all
  rw [e, (h (pre.length + j) (by simp; omega)).1]
  simp

end Go.Proofs.YtifnolomekhmfaaGreat
namespace Go.Proofs.YtifnolomekhmfaaGreat
open Go.RowKit
set_option linter.unusedVariables false

def strCells (ss : List ByteArray) : List Value := ss.map Value.string
theorem strCells_length (ss : List ByteArray) : (strCells ss).length = ss.length := by simp [strCells]
theorem strCells_append (ss tt : List ByteArray) : strCells (ss ++ tt) = strCells ss ++ strCells tt := by simp [strCells]

/-- A row that the call owns stays where only new memory is laid. -/
theorem owns_below {B : Nat} {e : TypeId} {v : Value} {n : Nat} {xs : List Value} {w w' : World} (h : w.ownsRow B e 1 v n xs) (hb : Below w.heap.size w w') : w'.ownsRow B e 1 v n xs :=
  h.kept (row := none) ⟨hb.os, hb.tape, hb.output, hb.size, fun k hk _ => hb.block k hk⟩ (Classical.em _)

/-- 'l = append(l, s)' on a row of texts that the call owns. -/
theorem wp_append_str {w : World} {ops : Array Oper} {rest : List Oper} {o : Oper} {a : Act} {Q : Exit → Act → World → Prop} (hgd : o.guard = none) (s x : Operand)
    (ho : o.op = .call { callee := .builtin .append, args := #[s, x], argTypes := #[25, 25] })
    (B : Nat) (v : Value) (n : Nat) (l : List ByteArray) (hs : a.eval s = v) (hown : w.ownsRow B 9 1 v n (strCells l))
    (ad : Addr) (c : ByteArray) (hx : a.eval x = .slice (some ad) 1 1) (hcell : w.cell? ad = some (.string c)) (hlen : n + 1 ≤ 1099511627776) (hB : B ≤ w.heap.size)
    (h : ∀ g cap w', w'.ownsRow B 9 1 (.slice (some ⟨g, 0, none⟩) (n + 1) cap) (n + 1) (strCells (l ++ [c])) → Below B w w' → wpList Tryz.prog ops Q rest (a.put o.dst (.slice (some ⟨g, 0, none⟩) (n + 1) cap)) w') : wpList Tryz.prog ops Q (o :: rest) a w := by
  obtain ⟨i0, hi, hz0, hz1, hz2⟩ := info_parts info_str
  refine wpList_append_own w hgd s x 25 ho B 9 i0 (.string ByteArray.empty) 1 16 Tryz.underlying25 hi hz0 hz1 hz2 rfl (by decide) v n _ hs hown ad 1 1 [.string c] hx rfl ?_ ?_ ?_ ?_ hB ?_
  · intro j u hj
    match j, hj with
    | 0, hj =>
      simp at hj; subst hj
      have : ad.add 0 = ad := by unfold Addr.add; split <;> simp_all
      rw [this]; exact hcell
  · intro u hu; simp at hu; subst hu; rfl
  · unfold maxLen; omega
  · omega
  · intro v' w' ho' hg _
    obtain ⟨g, cap, rfl⟩ : ∃ g cap, v' = .slice (some ⟨g, 0, none⟩) (n + 1) cap := by
      rcases ho'.2 with ⟨_, h0⟩ | ⟨g, cap, cur, hv, _⟩
      · omega
      · exact ⟨g, cap, hv⟩
    refine h g cap w' ?_ (below_grown hown hB hg)
    rw [strCells_append]
    exact ho'

/-- A new row of texts, in a block from B on, none of them frozen. -/
def OwnS (w : World) (B : Nat) (v : Value) (ns : List ByteArray) : Prop :=
  ∃ g cap, v = .slice (some ⟨g, 0, none⟩) ns.length cap ∧ ns.length ≤ cap ∧ cap ≤ maxLen ∧ B ≤ g ∧ g < w.heap.size ∧ ∀ j (hj : j < ns.length), w.cell? ⟨g, j, none⟩ = some (.string ns[j]) ∧ w.frozen? ⟨g, j, none⟩ = false

theorem OwnS.of {w : World} {B g n cap : Nat} {ns : List ByteArray} (h : w.ownsRow B 9 1 (.slice (some ⟨g, 0, none⟩) n cap) n (strCells ns)) (hn : ns.length = n) : OwnS w B (.slice (some ⟨g, 0, none⟩) n cap) ns := by
  subst hn
  have hlt := h.lt g rfl
  have hcap : ns.length ≤ cap ∧ cap ≤ maxLen := by
    rcases h.2 with ⟨e, _⟩ | ⟨g', cap', cur, hv, _, _, h1, h2, _⟩
    · cases e
    · cases hv; exact ⟨h1, h2⟩
  refine ⟨g, cap, rfl, hcap.1, hcap.2, hlt.1, hlt.2, fun j hj => ⟨?_, h.frozenAt j⟩⟩
  rw [h.cellAt j (by omega)]
  simp [strCells, List.getElem?_eq_getElem hj]

/-- .. cut at its length. -/
theorem OwnS.clip {w : World} {B g n cap : Nat} {ns : List ByteArray} (h : OwnS w B (.slice (some ⟨g, 0, none⟩) n cap) ns) : OwnS w B (.slice (some ⟨g, 0, none⟩) n n) ns := by
  obtain ⟨g', cap', hv, h1, h2, h3, h4, h5⟩ := h
  cases hv
  exact ⟨g, ns.length, rfl, Nat.le_refl _, Nat.le_trans h1 h2, h3, h4, h5⟩

theorem OwnS.strs {w : World} {B C : Nat} {a : Option Addr} {n cap : Nat} {ns : List ByteArray} (h : OwnS w B (.slice a n cap) ns) (hC : w.heap.size ≤ C) : Strs w C a ns := fun h0 => by
  obtain ⟨g, cap', hv, _, _, _, h4, h5⟩ := h
  cases hv
  exact ⟨g, 0, rfl, by omega, fun j hj => by rw [Nat.zero_add]; exact (h5 j hj).1⟩

theorem OwnS.below {w w' : World} {B : Nat} {v : Value} {ns : List ByteArray} (h : OwnS w B v ns) (hb : Below w.heap.size w w') : OwnS w' B v ns := by
  obtain ⟨g, cap, hv, h1, h2, h3, h4, h5⟩ := h
  refine ⟨g, cap, hv, h1, h2, h3, Nat.lt_of_lt_of_le h4 hb.size, fun j hj => ?_⟩
  rw [hb.cell (p := ⟨g, j, none⟩) h4, hb.frozen (p := ⟨g, j, none⟩) h4]
  exact h5 j hj

theorem OwnS.made (w : World) (B : Nat) (hB : B ≤ w.heap.size) (cs : Array Value) (T : TypeId) : OwnS (w.alloc (.cells cs T)) B (.slice (some ⟨w.heap.size, 0, none⟩) 0 0) [] :=
  ⟨w.heap.size, 0, rfl, Nat.le_refl _, Nat.zero_le _, hB, by simp, fun j hj => absurd hj (Nat.not_lt_zero _)⟩
end Go.Proofs.YtifnolomekhmfaaGreat
namespace Go.Proofs.YtifnolomekhmfaaGreat
open Go.RowKit M
set_option linter.unusedVariables false

/-- Few short texts. -/
def Few (n : Nat) (ss : List ByteArray) : Prop := ss.length ≤ n ∧ ∀ s ∈ ss, s.size ≤ 20
theorem Few.snoc {n : Nat} {ss : List ByteArray} {s : ByteArray} (h : Few n ss) (hs : s.size ≤ 20) : Few (n + 1) (ss ++ [s]) := ⟨by have := h.1; simp; omega, fun x hx => by
  rcases List.mem_append.1 hx with hx | hx
  · exact h.2 x hx
  · simp at hx; subst hx; exact hs⟩
theorem Few.mono {n m : Nat} {ss : List ByteArray} (h : Few n ss) (hm : n ≤ m) : Few m ss := ⟨Nat.le_trans h.1 hm, h.2⟩
theorem Few.short {n : Nat} {ss : List ByteArray} (h : Few n ss) : Short ss := fun s hs => Nat.le_trans (h.2 s hs) (by decide)

def namesD : List ByteArray := [⟨#[97]⟩, ⟨#[98]⟩, ⟨#[99]⟩, ⟨#[97, 32, 98]⟩, ⟨#[120, 37, 121]⟩, ⟨#[97]⟩, ⟨#[98]⟩]
def oddD : List ByteArray := [⟨#[]⟩, ⟨#[46]⟩, ⟨#[46, 46]⟩, ⟨#[97, 47, 98]⟩, ⟨#[110, 105, 110, 101, 98, 121, 116, 101, 115]⟩, ⟨#[31]⟩, ⟨#[101, 105, 103, 104, 116, 98, 121, 56]⟩]

set_option maxHeartbeats 400000 in
theorem l2Name_any {w : World} {N : Nat} {a : Option Addr} {len cap : Nat} {zs : List Int} (h : DX w N a len cap zs) :
    Calls Tryz.prog 107 #[.pointer (some ⟨N, 0, none⟩)] w fun e w' => (∃ s : ByteArray, e = .returned (.string s) ∧ s.size ≤ 20) ∧ DX w' N a len cap zs ∧ w.grownBy w' (some N) := by
  obtain ⟨c, h⟩ := h
  have H : Hid (DC w N a len cap zs c) := h
  clear h
  go_enter Tryz.func107, Tryz.ntmps107
  go_wp2_with fail
  refine (strNew H.out namesD _ _ 7 _ rfl rfl rfl (by decide) (by decide)).mono ?_
  rintro e w1 ⟨rfl, hd1, hg1⟩
  go_wp2
  go_ret
  exact ⟨⟨_, rfl, getD_mem namesD _ _ (fun s => s.size ≤ 20) (by decide) (by decide)⟩, ⟨_, hd1⟩, hg1⟩

theorem owns_grown {w w' : World} {B N g n c : Nat} {xs : List Value} (h : w.ownsRow B 9 1 (.slice (some ⟨g, 0, none⟩) n c) n xs) (hg : w.grownBy w' (some N)) (hN : N < B) : w'.ownsRow B 9 1 (.slice (some ⟨g, 0, none⟩) n c) n xs :=
  h.kept hg (.inr (by have := (h.lt g rfl).1; simp [Value.ownBlock]; omega))


set_option maxHeartbeats 2000000 in
theorem l2Draw_any {w : World} {N : Nat} {a : Option Addr} {len cap : Nat} {zs : List Int} (h : DX w N a len cap zs) :
    Calls Tryz.prog 108 #[.pointer (some ⟨N, 0, none⟩)] w fun e w' => (∃ (ss : List ByteArray) (n g c : Nat), Few 3 ss ∧ n = ss.length ∧ e = .returned (.slice (some ⟨g, 0, none⟩) n c) ∧ w'.ownsRow w.heap.size 9 1 (.slice (some ⟨g, 0, none⟩) n c) n (strCells ss)) ∧ DX w' N a len cap zs ∧ w.grownBy w' (some N) := by
  have hlt := h.lt
  have H : Hid (DX w N a len cap zs) := h
  clear h
  go_enter Tryz.func108, Tryz.ntmps108
  go_wp2_with fail
  refine (l1BelowX (H.out.alloc _) 4 (by decide) (by decide)).mono ?_
  rintro e w1 ⟨⟨k0, rfl, hk0⟩, hd1, hg1⟩
  have hgw : w.grownBy w1 (some N) := grown_trans (grown_alloc (grown_refl _ _) _) hg1
  have hown0 : w1.ownsRow w.heap.size 9 1 (.slice (some ⟨w.heap.size, 0, none⟩) 0 0) 0 (strCells []) := owns_grown (World.ownsRow_made w #[] 0 (Nat.le_refl _) (by decide) rfl) hg1 hlt
  have HD : Hid (DX w1 N a len cap zs) := hd1
  have HG : Hid (w.grownBy w1 (some N)) := hgw
  clear hg1 hgw hd1
  go_wp2
  go_loopw [3, 4] (fun v i wr => ∃ (k : Nat) (ss : List ByteArray) (n g c : Nat), i = .int .i64 k ∧ v = .slice (some ⟨g, 0, none⟩) n c ∧ n = ss.length ∧ n + k ≤ 3 ∧ Few n ss ∧ wr.ownsRow w.heap.size 9 1 (.slice (some ⟨g, 0, none⟩) n c) n (strCells ss) ∧ DX wr N a len cap zs ∧ w.grownBy wr (some N)) (fun _ i _ => (intOf i).toNat)
  case atStart => exact ⟨k0, [], 0, w.heap.size, 0, rfl, rfl, rfl, by omega, ⟨Nat.le_refl _, fun _ h => by cases h⟩, hown0, HD.out, HG.out⟩
  case round =>
    obtain ⟨k, ss, n, g, c, rfl, rfl, hn, hnk, hf, hown, hd, hg⟩ := hrel
    have HN : Hid (n = ss.length) := hn
    have HF : Hid (Few n ss) := hf
    have HD2 : Hid (DX wr N a len cap zs) := hd
    have HG2 : Hid (w.grownBy wr (some N)) := hg
    clear hn hf hd hg hown0
    by_cases h0 : 0 < k
    · have h0' : (0 : Int) < k := by omega
      go_wp2_with fail
      refine (l2Name_any HD2.out).mono ?_
      rintro e w2 ⟨⟨x, rfl, hx⟩, hd2, hg2⟩
      have hown2 := owns_grown hown hg2 hlt
      have HG3 : Hid (w.grownBy w2 (some N)) := grown_trans HG2.out hg2
      have HD3 : Hid (DX w2 N a len cap zs) := hd2
      clear hd2 hg2
      have hsz := HG3.out.size
      go_wp2_with (at_builtin; refine wp_append_str rfl _ _ rfl w.heap.size _ n ss rfl (hown2.alloc _) _ x rfl ?c1 ?c2 ?c3 ?_)
      case c1 => simp
      case c2 => omega
      case c3 => simp; omega
      intro g1 cap1 w3 ho3 hb3
      have HD4 : Hid (DX w3 N a len cap zs) := (HD3.out.alloc _).other hb3.size (fun k hk => hb3.block k (by omega))
      have HG4 : Hid (w.grownBy w3 (some N)) := grown_past (grown_alloc HG3.out _) hb3
      go_wp2
      go_roundw
      case rel => exact ⟨k - 1, ss ++ [x], n + 1, g1, cap1, by first | go_num | (congr 1; omega), rfl, by rw [List.length_append, ← HN.out]; rfl, by omega, HF.out.snoc hx, ho3, HD4.out, HG4.out⟩
      case measure => simp [intOf]; omega
    · have hk : k = 0 := by omega
      subst hk
      go_wp2
      go_ret
      exact ⟨⟨ss, n, g, c, HF.out.mono (by omega), HN.out, rfl, hown⟩, HD2.out, HG2.out⟩
end Go.Proofs.YtifnolomekhmfaaGreat
namespace Go.Proofs.YtifnolomekhmfaaGreat
open Go.RowKit M
set_option linter.unusedVariables false

theorem own_strs {w : World} {B g n c : Nat} {ss : List ByteArray} (h : w.ownsRow B 9 1 (.slice (some ⟨g, 0, none⟩) n c) n (strCells ss)) (hn : n = ss.length) : Strs w w.heap.size (some ⟨g, 0, none⟩) ss ∧ n ≤ c ∧ c ≤ maxLen ∧ B ≤ g := by
  have hlt := h.lt g rfl
  refine ⟨fun h0 => ⟨g, 0, rfl, hlt.2, fun j hj => ?_⟩, ?_⟩
  · have e := h.cellAt j (by omega)
    rw [Nat.zero_add, e]
    unfold strCells
    rw [List.getElem?_map, List.getElem?_eq_getElem hj]
    rfl
  · rcases h.2 with ⟨e, _⟩ | ⟨g', c', cur, e, hB, hh, h1, h2, _⟩
    · cases e
    · cases e; exact ⟨h1, h2, hB⟩
end Go.Proofs.YtifnolomekhmfaaGreat
namespace Go.Proofs.YtifnolomekhmfaaGreat

open Go.RowKit
theorem hide {p : Prop} (h : p) : Hid p := h
end Go.Proofs.YtifnolomekhmfaaGreat
