/-
  Slices of heads: what they hold, and that it stays.
  Two answers that are the same.
  What the program's calls on kinds of bytes do: isOf, isOneOf: each computes, and turns nothing in memory.
  What the specification's l1In does; a byte as an int.
  What spec.l1Large does.
  What the specification's own Plain does.
-/
import Derived.Test.YtnoijfnpchihoaaGreatDoorRows
import Derived.Test.YtnoijfnpchihoaaGreatDoorMathReq
import Derived.WalkKit
import Derived.WalkSpells
import Derived.WalkLawsBesides
import Derived.Deep.Light
import Derived.Deep.QuietTactic
import Derived.Deep.OwnRows
import Derived.Test.YtnoijfnpchihoaaGreatDoorMathSmall
namespace Go.Proofs.YtnoijfnpchihoaaGreatDoor
open Go.RowKit M

theorem hide {p : Prop} (h : p) : Hid p := h

/-- The heads that a slice holds, in a block below B. -/
def Hds (w : World) (B : Nat) (a : Option Addr) (hs : List Hd) : Prop :=
  0 < hs.length → ∃ b o, a = some ⟨b, o, none⟩ ∧ b < B ∧ ∀ j (hj : j < hs.length), w.cell? ⟨b, o + j * 2, none⟩ = some (.string hs[j].1) ∧ w.cell? ⟨b, o + j * 2 + 1, none⟩ = some (.string hs[j].2)

theorem Hds.below {w w' : World} {B C : Nat} {a : Option Addr} {hs : List Hd} (h : Hds w B a hs) (hb : Below C w w') (hB : B ≤ C) : Hds w' B a hs := fun h0 => by
  obtain ⟨b, o, e, hbB, hc⟩ := h h0
  exact ⟨b, o, e, hbB, fun j hj => ⟨(hb.cell (p := ⟨b, o + j * 2, none⟩) (Nat.lt_of_lt_of_le hbB hB)).trans (hc j hj).1, (hb.cell (p := ⟨b, o + j * 2 + 1, none⟩) (Nat.lt_of_lt_of_le hbB hB)).trans (hc j hj).2⟩⟩
theorem Hds.mono {w : World} {B C : Nat} {a : Option Addr} {hs : List Hd} (h : Hds w B a hs) (hB : B ≤ C) : Hds w C a hs := fun h0 => by
  obtain ⟨b, o, e, hbB, hc⟩ := h h0
  exact ⟨b, o, e, Nat.lt_of_lt_of_le hbB hB, hc⟩

theorem Hds.store {w : World} {B g o : Nat} {hs : List Hd} (h : Hds w B (some ⟨g, o, none⟩) hs) (p : Addr) (v : Value) (hp : p.block ≠ g) : Hds (w.setCell p v) B (some ⟨g, o, none⟩) hs := fun h0 => by
  obtain ⟨b, o', e, hbB, hc⟩ := h h0
  cases e
  exact ⟨g, o, rfl, hbB, fun j hj => ⟨(World.cell?_setCell_other _ _ _ _ (fun e => hp (congrArg Addr.block e))).trans (hc j hj).1, (World.cell?_setCell_other _ _ _ _ (fun e => hp (congrArg Addr.block e))).trans (hc j hj).2⟩⟩

/-- All of them short enough. -/
def ShortH (hs : List Hd) : Prop := ∀ h ∈ hs, h.1.size ≤ maxLen ∧ h.2.size ≤ maxLen
theorem ShortH.at {hs : List Hd} (h : ShortH hs) (k : Nat) (hk : k < hs.length) : (hs[k]).1.size ≤ maxLen ∧ (hs[k]).2.size ≤ maxLen := h _ (List.getElem_mem hk)

/-- A request all of whose parts are short enough. -/
def ShortR (r : Rq) : Prop := r.m.size ≤ maxLen ∧ r.p.size ≤ maxLen ∧ r.b.size ≤ maxLen ∧ r.hs.length ≤ maxLen ∧ ShortH r.hs

/-- The value of a head, and of a request. -/
def hdV (h : Hd) : Value := .agg #[.string h.1, .string h.2]
def rqV (a : Option Addr) (n cap : Nat) (r : Rq) : Value := .agg #[.string r.m, .string r.p, .slice a n cap, .string r.b]

theorem strInj {a b : ByteArray} (h : a.toList = b.toList) : a = b := by
  rw [ByteArray.toList_eq, ByteArray.toList_eq] at h
  exact ByteArray.ext (Array.ext' h)

/-- What was there reads as it did, behind a call that only made memory. -/
theorem bcell {W w1 : World} (hb : Below W.heap.size W w1) : (∀ b o, b < W.heap.size → w1.cell? ⟨b, o, none⟩ = W.cell? ⟨b, o, none⟩) ∧ (∀ b o, b < W.heap.size → w1.frozen? ⟨b, o, none⟩ = W.frozen? ⟨b, o, none⟩) :=
  ⟨fun b o h => hb.cell (p := ⟨b, o, none⟩) h, fun b o h => hb.frozen (p := ⟨b, o, none⟩) h⟩
end Go.Proofs.YtnoijfnpchihoaaGreatDoor
namespace Go.Proofs.YtnoijfnpchihoaaGreatDoor

theorem ret_bool {a b : Bool} (h : a = b) : Ending.returned (.bool a) = .returned (.bool b) := by rw [h]
end Go.Proofs.YtnoijfnpchihoaaGreatDoor
namespace Go.Proofs.YtnoijfnpchihoaaGreatDoor
open Go.RowKit M

set_option maxHeartbeats 400000 in
theorem isOf_any (c k : Int) (w : World) :
    Calls Tryz.prog 127 #[.int .u8 c, .int .i64 k] w fun e w' => e = .returned (.bool (isB c k)) ∧ w' = w := by
  go_enter Tryz.func127, Tryz.ntmps127
  go_wp2
  all_goals
    go_ret
    refine ⟨ret_bool ?_, rfl⟩
    go_light
    unfold isB
    simp_all
    try omega

set_option maxHeartbeats 400000 in
theorem isOneOf_any (c : Int) (ks : List Int) (n b o cap : Nat) (w : World) (hn : ks.length = n) (hl : ks.length ≤ maxLen)
    (hc : ∀ i, i < ks.length → w.cell? ⟨b, o + i, none⟩ = some (.int .i64 (ks.getD i 0))) :
    Calls Tryz.prog 105 #[.int .u8 c, .slice (some ⟨b, o, none⟩) n cap] w fun e w' => e = .returned (.bool (anyB c ks)) ∧ w' = w := by
  subst hn
  unfold maxLen at hl
  go_enter Tryz.func105, Tryz.ntmps105
  go_wp2
  go_loop [9] (fun i => ∃ k : Nat, k ≤ ks.length ∧ i = .int .i64 k ∧ anyB c (ks.take k) = false) (fun i => ks.length - (intOf i).toNat)
  case atStart => exact ⟨0, Nat.zero_le _, rfl, rfl⟩
  case round =>
    obtain ⟨k, hk, rfl, hn⟩ := hrel
    have HN : Hid (anyB c (ks.take k) = false) := hn; clear hn
    by_cases hlt : k < ks.length
    · have hcx := hc k hlt
      go_wp2_with (go_at_call 127; refine (isOf_any _ _ _).mono ?_; rintro e w' ⟨rfl, rfl⟩)
      · go_ret
        exact ⟨ret_bool (by rw [anyB_of c ks k hlt (by assumption)]), rfl⟩
      · go_round
        case rel => exact ⟨k + 1, by omega, by go_num, anyB_snoc c ks k hlt HN.out (by assumption)⟩
        case measure => simp [intOf]; omega
    · go_wp2
      go_ret
      exact ⟨ret_bool (by rw [← HN.out, List.take_of_length_le (by omega)]), rfl⟩
theorem cells1 (w : World) (a : Int) (T : TypeId) : ∀ i, i < [a].length → (w.alloc (Obj.cells #[.int .i64 a] T)).cell? ⟨w.heap.size, 0 + i, none⟩ = some (.int .i64 ([a].getD i 0)) := by
  intro i hi
  match i, hi with
  | 0, _ => simp

theorem cells3 (w : World) (n : Nat) (a b c : Int) (T : TypeId) (hn : w.heap.size = n) : ∀ i, i < [a, b, c].length → (w.alloc (Obj.cells #[.int .i64 a, .int .i64 b, .int .i64 c] T)).cell? ⟨n, 0 + i, none⟩ = some (.int .i64 ([a, b, c].getD i 0)) := by
  subst hn
  intro i hi
  match i, hi with
  | 0, _ => simp
  | 1, _ => simp
  | 2, _ => simp
end Go.Proofs.YtnoijfnpchihoaaGreatDoor
namespace Go.Proofs.YtnoijfnpchihoaaGreatDoor
open Go.RowKit M

set_option maxHeartbeats 400000 in
theorem l1In_any (x a b : Int) (w : World) :
    Calls Tryz.prog 61 #[.int .i64 x, .int .i64 a, .int .i64 b] w fun e w' => e = .returned (.bool (inB x a b)) ∧ w' = w := by
  go_enter Tryz.func61, Tryz.ntmps61
  go_wp2
  all_goals
    go_ret
    refine ⟨ret_bool ?_, rfl⟩
    go_light
    unfold inB
    simp_all
    try omega

theorem wrap64_u8 (c : UInt8) : wrap64 (c.toNat : Int) = c.toNat := by
  have := c.toNat_lt
  unfold wrap64
  omega
end Go.Proofs.YtnoijfnpchihoaaGreatDoor
namespace Go.Proofs.YtnoijfnpchihoaaGreatDoor
open Go.RowKit M

set_option maxHeartbeats 400000 in
theorem l1Large_any (c : UInt8) (w : World) :
    Calls Tryz.prog 131 #[.int .u8 c.toNat] w fun e w' => e = .returned (.bool (isB c.toNat 3)) ∧ w' = w := by
  go_enter Tryz.func131, Tryz.ntmps131
  go_wp2_with (go_at_call 61; refine (l1In_any _ _ _ _).mono ?_; rintro e w' ⟨rfl, rfl⟩; rw [wrap64_u8, inB_large])
  go_ret
  exact ⟨rfl, rfl⟩
end Go.Proofs.YtnoijfnpchihoaaGreatDoor
namespace Go.Proofs.YtnoijfnpchihoaaGreatDoor
open Go.RowKit M

set_option maxHeartbeats 400000 in
theorem specPlain_any (s : ByteArray) (w : World) (hs : s.size ≤ maxLen) :
    Calls Tryz.prog 135 #[.string s] w fun e w' => e = .returned (.bool (allB s.data.toList [0])) ∧ w' = w := by
  unfold maxLen at hs
  go_enter Tryz.func135, Tryz.ntmps135
  go_wp2
  go_loop [3] (fun i => ∃ k : Nat, k ≤ s.size ∧ i = .int .i64 k ∧ allB (s.data.toList.take k) [0] = true) (fun i => s.size - (intOf i).toNat)
  case atStart => exact ⟨0, Nat.zero_le _, rfl, rfl⟩
  case round =>
    obtain ⟨k, hk, rfl, hn⟩ := hrel
    have HN : Hid (allB (s.data.toList.take k) [0] = true) := hn; clear hn
    by_cases hlt : k < s.size
    · go_wp2_with (go_at_call 61; refine (l1In_any _ _ _ _).mono ?_; rintro e w' ⟨rfl, rfl⟩; rw [wrap64_u8, inB_plain])
      · go_ret
        exact ⟨ret_bool (by rw [allB_not s [0] k hlt (by assumption)]), rfl⟩
      · go_round
        case rel => exact ⟨k + 1, by omega, by go_num, allB_snoc s [0] k hlt HN.out (by assumption)⟩
        case measure => simp [intOf]; omega
    · go_wp2
      go_ret
      exact ⟨ret_bool (by rw [← HN.out, take_all s k hlt]), rfl⟩

end Go.Proofs.YtnoijfnpchihoaaGreatDoor
