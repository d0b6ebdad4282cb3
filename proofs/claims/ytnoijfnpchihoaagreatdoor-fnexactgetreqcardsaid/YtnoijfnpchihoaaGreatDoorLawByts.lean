/-
  Slices of bytes: what they hold, and that it stays; parts of them; texts of them.
  Whether two slices of bytes hold the same, by the laws' own help.
  What the laws' own helps on slices of bytes do: copies, the same.
-/
import Derived.Test.YtnoijfnpchihoaaGreatDoorRows
import Derived.WalkKit
import Derived.WalkSpells
import Derived.WalkLawsBesides
import Derived.Deep.Light
import Derived.Deep.QuietTactic
import Derived.Deep.OwnRows
import Derived.Laws.IdiomStrings
import Derived.Laws.BytesArg
import Derived.Test.YtnoijfnpchihoaaGreatDoorSpecPl
namespace Go.Proofs.YtnoijfnpchihoaaGreatDoor
open Go.RowKit

/-- The bytes that a slice holds, in a block below B. -/
def Byt (w : World) (B : Nat) (a : Option Addr) (l : List UInt8) : Prop :=
  0 < l.length → ∃ b o, a = some ⟨b, o, none⟩ ∧ b < B ∧ ∀ j (hj : j < l.length), w.cell? ⟨b, o + j, none⟩ = some (.int .u8 l[j].toNat)

theorem Byt.below {w w' : World} {B C : Nat} {a : Option Addr} {l : List UInt8} (h : Byt w B a l) (hb : Below C w w') (hB : B ≤ C) : Byt w' B a l := fun h0 => by
  obtain ⟨b, o, e, hbB, hc⟩ := h h0
  exact ⟨b, o, e, hbB, fun j hj => (hb.cell (p := ⟨b, o + j, none⟩) (Nat.lt_of_lt_of_le hbB hB)).trans (hc j hj)⟩
theorem Byt.mono {w : World} {B C : Nat} {a : Option Addr} {l : List UInt8} (h : Byt w B a l) (hB : B ≤ C) : Byt w C a l := fun h0 => by
  obtain ⟨b, o, e, hbB, hc⟩ := h h0
  exact ⟨b, o, e, Nat.lt_of_lt_of_le hbB hB, hc⟩
theorem Byt.take {w : World} {B : Nat} {a : Option Addr} {l : List UInt8} (h : Byt w B a l) (k : Nat) : Byt w B a (l.take k) := fun h0 => by
  have hl : (l.take k).length ≤ l.length := by rw [List.length_take]; omega
  obtain ⟨b, o, e, hbB, hc⟩ := h (by omega)
  exact ⟨b, o, e, hbB, fun j hj => by rw [hc j (by omega), List.getElem_take]⟩
theorem Byt.drop {w : World} {B b o : Nat} {l : List UInt8} (h : Byt w B (some ⟨b, o, none⟩) l) (k : Nat) : Byt w B (some ⟨b, o + k, none⟩) (l.drop k) := fun h0 => by
  have hl : (l.drop k).length = l.length - k := List.length_drop
  obtain ⟨b', o', e, hbB, hc⟩ := h (by omega)
  cases e
  exact ⟨b, o + k, rfl, hbB, fun j hj => by rw [Nat.add_assoc, hc (k + j) (by omega), List.getElem_drop]⟩
theorem Byt.nil (w : World) (B : Nat) (a : Option Addr) : Byt w B a [] := fun h => absurd h (Nat.lt_irrefl _)
theorem Byt.drew {w : World} {B : Nat} {a : Option Addr} {l : List UInt8} (h : Byt w B a l) : Byt w.drew B a l := h

/-- 'string(b)' of such a slice. -/
theorem conv_byt {w : World} {B : Nat} {a : Option Addr} {l : List UInt8} (h : Byt w B a l) (n cap : Nat) (hn : l.length = n) :
    (convert 22 9 (.slice a n cap)).run Tryz.prog w = .ok (.string ⟨l.toArray⟩) w := by
  subst hn
  by_cases h0 : 0 < l.length
  · obtain ⟨b, o, rfl, _, hc⟩ := h h0
    refine run_convert_bytes_back w 22 9 5 _ cap l Tryz.underlying22 Tryz.underlying5 Tryz.underlying9 ?_
    intro j hj
    have : (⟨b, o, none⟩ : Addr).add j = ⟨b, o + j, none⟩ := by unfold Addr.add; split <;> simp_all
    rw [this]; exact hc j hj
  · have : l = [] := List.length_eq_zero_iff.1 (by omega)
    subst this
    cases a with
    | none => exact run_convert_bytes_nil w 22 5 Tryz.underlying22 Tryz.underlying5 0 cap 9 Tryz.underlying9
    | some x => exact run_convert_bytes_back w 22 9 5 x cap [] Tryz.underlying22 Tryz.underlying5 Tryz.underlying9 (fun j hj => absurd hj (Nat.not_lt_zero _))
end Go.Proofs.YtnoijfnpchihoaaGreatDoor
namespace Go.Proofs.YtnoijfnpchihoaaGreatDoor
open Go.RowKit
set_option linter.unusedVariables false

def sameY (l m : List UInt8) : Bool := decide (l = m)
theorem sameY_refl (l : List UInt8) : sameY l l = true := by simp [sameY]
theorem sameY_len {l m : List UInt8} (h : ¬ l.length = m.length) : sameY l m = false := by
  simp only [sameY, decide_eq_false_iff_not]; intro e; exact h (by rw [e])
theorem sameY_not {l m : List UInt8} (k : Nat) (h1 : k < l.length) (h2 : k < m.length) (h : ¬ l[k] = m[k]) : sameY l m = false := by
  simp only [sameY, decide_eq_false_iff_not]; intro e; subst e; exact h rfl
theorem sameY_all {l m : List UInt8} (hl : l.length = m.length) (k : Nat) (hk : ¬ k < l.length) (h : l.take k = m.take k) : sameY l m = true := by
  rw [List.take_of_length_le (by omega), List.take_of_length_le (by omega)] at h
  simp [sameY, h]
theorem take_sameY {l m : List UInt8} (k : Nat) (h1 : k < l.length) (h2 : k < m.length) (h0 : l.take k = m.take k) (h : l[k] = m[k]) : l.take (k + 1) = m.take (k + 1) := by
  rw [List.take_succ_eq_append_getElem h1, List.take_succ_eq_append_getElem h2, h0, h]

set_option maxHeartbeats 400000 in
theorem eqByteS_any (a b : Option Addr) (l m : List UInt8) (cap cap' B C : Nat) (w : World) (h : Byt w B a l) (h' : Byt w C b m) (hl : l.length ≤ maxLen) (hl' : m.length ≤ maxLen) :
    Calls Tryz.prog 30 #[.slice a l.length cap, .slice b m.length cap'] w fun e w' => e = .returned (.bool (sameY l m)) ∧ ∀ D, Below D w w' := by
  unfold maxLen at hl hl'
  by_cases hlen : l.length = m.length
  · have HL : Hid (l.length = m.length) := hlen
    go_enter Tryz.func30, Tryz.ntmps30
    rw [← hlen]
    clear hlen
    go_wp2
    go_loopw [5] (fun i wr => ∃ k n : Nat, k ≤ l.length ∧ i = .int .i64 k ∧ l.take k = m.take k ∧ wr = w.drewN n) (fun i _ => l.length - (intOf i).toNat)
    case atStart => exact ⟨0, 0, Nat.zero_le _, rfl, rfl, rfl⟩
    case round =>
      obtain ⟨k, n, hk, rfl, ht, rfl⟩ := hrel
      have HT : Hid (l.take k = m.take k) := ht
      clear ht
      by_cases hlt : k < l.length
      · have hlt' : k < m.length := by have := HL.out; omega
        obtain ⟨b1, o1, rfl, hb1, hc1⟩ := h (by omega)
        obtain ⟨b2, o2, rfl, hb2, hc2⟩ := h' (by have := HL.out; omega)
        have hcx := hc1 k hlt
        have hcy := hc2 k hlt'
        by_cases he : l[k] = m[k]
        · have e1 : (((l[k]).toNat : Int) != (m[k]).toNat) = false := by rw [he]; simp
          have HE : Hid (l[k] = m[k]) := he
          clear he
          go_wp2
          go_quiet (fail)
          go_wp2
          go_roundw
          case rel => exact ⟨k + 1, n + nq, by omega, by go_num, take_sameY k hlt hlt' HT.out HE.out, rfl⟩
          case measure => simp [intOf]; omega
        · have e1 : (((l[k]).toNat : Int) != (m[k]).toNat) = true := by
            rw [bne_iff_ne]; intro e; exact he (UInt8.toNat_inj.1 (by omega))
          have HE : Hid (sameY l m = false) := sameY_not k hlt hlt' he
          clear he
          go_wp2
          go_quiet (fail)
          go_wp2
          go_ret
          exact ⟨ret_bool HE.out.symm, fun D => below_drewN (below_drewN (Below.refl _ _) _) _⟩
      · go_wp2
        go_ret
        exact ⟨ret_bool (sameY_all HL.out k hlt HT.out).symm, fun D => below_drewN (Below.refl _ _) _⟩
  · have HS := sameY_len hlen
    go_enter Tryz.func30, Tryz.ntmps30
    go_wp2
    go_ret
    exact ⟨ret_bool HS.symm, fun D => Below.refl _ _⟩
end Go.Proofs.YtnoijfnpchihoaaGreatDoor
namespace Go.Proofs.YtnoijfnpchihoaaGreatDoor
open Go.RowKit
set_option linter.unusedVariables false

theorem info_u8 : (Tryz.prog.info? 5).map (fun i => (i.zero, i.size, i.bytes)) = some (some (.int .u8 0), 1, 1) := by kernel_rfl

/-- A new row of bytes, none of them frozen. -/
def NewB (w : World) (N : Nat) (l : List UInt8) : Prop := w.rowIs N 5 l.length (fun j => .int .u8 (l.getD j 0).toNat)
theorem NewB.byt {w : World} {N C : Nat} {l : List UInt8} (h : NewB w N l) (hN : N < C) : Byt w C (some ⟨N, 0, none⟩) l := fun _ =>
  ⟨N, 0, rfl, hN, fun j hj => by rw [Nat.zero_add, World.rowIs.cell h hj]; simp [List.getD, List.getElem?_eq_getElem hj]⟩
theorem NewB.next {w w' : World} {N : Nat} {l : List UInt8} (h : NewB w N l) (hb : Below w.heap.size w w') : NewB w' N l := World.rowIs.of_block h (hb.block _ (World.rowIs.lt h))

set_option maxHeartbeats 400000 in
theorem toByteS_any (a : Option Addr) (l : List UInt8) (cap B : Nat) (w : World) (h : Byt w B a l) (hB : B ≤ w.heap.size) (hl : l.length ≤ 1048576) :
    Calls Tryz.prog 28 #[.slice a l.length cap] w fun e w' => e = .returned (.slice (some ⟨w.heap.size, 0, none⟩) l.length l.length) ∧ NewB w' w.heap.size l ∧ Below w.heap.size w w' ∧ w.heap.size < w'.heap.size := by
  have hmk := run_make_row' (P := Tryz.prog) 22 5 (.int .u8 0) 1 Tryz.underlying22 info_u8 rfl .i64 .i64 l.length (by omega) (by omega) w
  go_enter Tryz.func28, Tryz.ntmps28
  go_wp2
  clear hmk
  go_loopw [4] (fun i wr => ∃ k : Nat, k ≤ l.length ∧ i = .int .i64 k ∧ wr.rowIs w.heap.size 5 l.length (fun j => if j < k then .int .u8 (l.getD j 0).toNat else .int .u8 0) ∧ Below w.heap.size w wr) (fun i _ => l.length - (intOf i).toNat)
  case atStart => exact ⟨0, Nat.zero_le _, rfl, (World.rowIs_made w _ _ _).congr (fun i _ => by simp), (Below.refl _ _).alloc (Nat.le_refl _) _⟩
  case round =>
    obtain ⟨k, hk, rfl, hrow, hbe⟩ := hrel
    by_cases hlt : k < l.length
    · obtain ⟨b, o, rfl, hb, hc⟩ := h (by omega)
      have hcx := (hbe.cell (p := ⟨b, o + k, none⟩) (Nat.lt_of_lt_of_le hb hB)).trans (hc k hlt)
      have hcn := hrow.cell hlt
      have hfn := hrow.frozen k
      have hrow2 := (hrow.set k (.int .u8 (l[k]).toNat)).congr (g := fun j => if j < k + 1 then .int .u8 (l.getD j 0).toNat else .int .u8 0) (fun j hj => by
        by_cases e : j = k
        · subst e; simp [List.getD, List.getElem?_eq_getElem hlt]
        · simp only [e, if_false]
          by_cases e2 : j < k
          · rw [if_pos e2, if_pos (by omega)]
          · rw [if_neg e2, if_neg (by omega)])
      have HR : Hid _ := hrow2
      clear hrow2
      go_wp2
      go_roundw
      case rel => exact ⟨k + 1, by omega, by go_num, HR.out, hbe.setCell (Nat.le_refl _) _⟩
      case measure => simp [intOf]; omega
    · go_wp2
      go_ret
      refine ⟨rfl, hrow.congr (fun j hj => by rw [if_pos (by omega)]), hbe, hrow.lt⟩
end Go.Proofs.YtnoijfnpchihoaaGreatDoor
