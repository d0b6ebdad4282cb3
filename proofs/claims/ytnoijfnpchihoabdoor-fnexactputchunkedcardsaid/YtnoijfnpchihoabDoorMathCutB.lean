/-
  A list of one head, and of none.
  Slices of numbers: what they hold, and that it stays.
  Plain facts on numbers' digits: no program in sight.
  Plain facts on bodies told in pieces: no program in sight.
  Plain facts on texts that are cut in two: no program in sight.
-/
import Derived.Test.YtnoijfnpchihoabDoorMathLines
import Derived.Test.YtnoijfnpchihoabDoorRows
import Derived.WalkKit
import Derived.Deep.OwnRows
import Derived.Test.YtnoijfnpchihoabDoorMath
import Derived.Lib.ItoaNum
namespace Go.Proofs.YtnoijfnpchihoabDoor
open Go.RowKit M
set_option linter.unusedVariables false

theorem Hds.one (w : World) (x y : ByteArray) (T : TypeId) : Hds (w.alloc (Obj.cells #[Value.string x, Value.string y] T)) (w.heap.size + 1) (some ⟨w.heap.size, 0, none⟩) [(x, y)] := fun _ =>
  ⟨w.heap.size, 0, rfl, Nat.lt_succ_self _, fun j hj => by
    have hj0 : j = 0 := by simp at hj; exact hj
    subst hj0
    exact ⟨(BoxH.made w x y T).2.1, (BoxH.made w x y T).2.2⟩⟩
theorem Hds.nil (w : World) (B : Nat) (a : Option Addr) : Hds w B a [] := fun h => absurd h (Nat.lt_irrefl _)
end Go.Proofs.YtnoijfnpchihoabDoor
namespace Go.Proofs.YtnoijfnpchihoabDoor
open Go.RowKit

/-- The numbers that a slice holds, in a block below B. -/
def Ints (w : World) (B : Nat) (a : Option Addr) (l : List Int) : Prop :=
  0 < l.length → ∃ b o, a = some ⟨b, o, none⟩ ∧ b < B ∧ ∀ j (hj : j < l.length), w.cell? ⟨b, o + j, none⟩ = some (.int .i64 l[j])

theorem Ints.below {w w' : World} {B C : Nat} {a : Option Addr} {l : List Int} (h : Ints w B a l) (hb : Below C w w') (hB : B ≤ C) : Ints w' B a l := fun h0 => by
  obtain ⟨b, o, e, hbB, hc⟩ := h h0
  exact ⟨b, o, e, hbB, fun j hj => (hb.cell (p := ⟨b, o + j, none⟩) (Nat.lt_of_lt_of_le hbB hB)).trans (hc j hj)⟩
theorem Ints.mono {w : World} {B C : Nat} {a : Option Addr} {l : List Int} (h : Ints w B a l) (hB : B ≤ C) : Ints w C a l := fun h0 => by
  obtain ⟨b, o, e, hbB, hc⟩ := h h0
  exact ⟨b, o, e, Nat.lt_of_lt_of_le hbB hB, hc⟩
end Go.Proofs.YtnoijfnpchihoabDoor
namespace Go.Proofs.YtnoijfnpchihoabDoor.M

/-- The digits ahead of the last one. -/
def decAhead (m : Nat) : List UInt8 := if m < 10 then [] else Lib.decDigits (m / 10)
def decLow (m : Nat) : UInt8 := UInt8.ofNat (48 + m % 10)

theorem decDigits_ahead (m : Nat) : Lib.decDigits m = decAhead m ++ [decLow m] := by
  rw [Lib.decDigits]
  unfold decAhead decLow
  by_cases h : m < 10
  · rw [dif_pos h, if_pos h, Nat.mod_eq_of_lt h]; rfl
  · rw [dif_neg h, if_neg h]

theorem decAhead_step (m : Nat) (h : 9 < m) : decAhead m = decAhead (m / 10) ++ [decLow (m / 10)] := by
  rw [← decDigits_ahead]
  unfold decAhead
  rw [if_neg (by omega)]

theorem decAhead_end (m : Nat) (h : ¬ 9 < m) : decAhead m = [] := by
  unfold decAhead
  rw [if_pos (by omega)]

theorem decLow_toNat (m : Nat) : (decLow m).toNat = 48 + m % 10 := by
  unfold decLow
  rw [UInt8.toNat_ofNat']
  omega

/-- A digit to the base 16. -/
def hexCh (d : Nat) : UInt8 := if d < 10 then UInt8.ofNat (48 + d) else UInt8.ofNat (87 + d)
/-- The digits to the base 16, f of them at most. -/
def hexDig : Nat → Nat → List UInt8
  | 0, _ => []
  | f + 1, m => if m < 16 then [hexCh m] else hexDig f (m / 16) ++ [hexCh (m % 16)]
def hexDigits (m : Nat) : List UInt8 := hexDig 16 m
/-- The digits ahead of the last one. -/
def hexAhead (f m : Nat) : List UInt8 := if m < 16 then [] else hexDig f (m / 16)

theorem hexDig_ahead (f m : Nat) : hexDig (f + 1) m = hexAhead f m ++ [hexCh (m % 16)] := by
  unfold hexAhead
  simp only [hexDig]
  by_cases h : m < 16
  · rw [if_pos h, if_pos h, Nat.mod_eq_of_lt h]; rfl
  · rw [if_neg h, if_neg h]

theorem hexAhead_step (f m : Nat) (h : 15 < m) : hexAhead (f + 1) m = hexAhead f (m / 16) ++ [hexCh (m / 16 % 16)] := by
  rw [← hexDig_ahead]
  unfold hexAhead
  rw [if_neg (by omega)]

theorem hexAhead_end (f m : Nat) (h : ¬ 15 < m) : hexAhead f m = [] := by
  unfold hexAhead
  rw [if_pos (by omega)]

theorem hexCh_toNat (d : Nat) (h : d < 16) : (hexCh d).toNat = if d < 10 then 48 + d else 87 + d := by
  unfold hexCh
  split
  · rw [UInt8.toNat_ofNat']; omega
  · rw [UInt8.toNat_ofNat']; omega

end Go.Proofs.YtnoijfnpchihoabDoor.M
namespace Go.Proofs.YtnoijfnpchihoabDoor.M

/-- A piece: its size, a line's end, its bytes, a line's end. -/
def chTxt (m : List UInt8) : List UInt8 := hexDigits m.length ++ (crlf ++ (m ++ crlf))
/-- Nothing of none. -/
def chTxt0 (m : List UInt8) : List UInt8 := if m = [] then [] else chTxt m
/-- The pieces that a body is cut into. -/
def pcsC : List Int → List UInt8 → List (List UInt8)
  | [], b => if b = [] then [] else [b]
  | n :: r, b => if n < 1 ∨ b = [] then pcsC r b else b.take n.toNat :: pcsC r (b.drop n.toNat)
def pcsTxt (ns : List Int) (b : List UInt8) : List UInt8 := (pcsC ns b).flatMap chTxt
/-- A body in pieces. -/
def putCs (ns : List Int) (b : List UInt8) : List UInt8 := pcsTxt ns b ++ chTxt []

theorem chTxt_nil : chTxt [] = [48, 13, 10, 13, 10] := by decide
theorem pcsTxt_skip {n : Int} (r : List Int) (b : List UInt8) (h : n < 1) : pcsTxt (n :: r) b = pcsTxt r b := by
  unfold pcsTxt; rw [pcsC, if_pos (.inl h)]
theorem pcsTxt_step {n : Int} (r : List Int) (b : List UInt8) (h : 1 ≤ n) : pcsTxt (n :: r) b = chTxt0 (b.take n.toNat) ++ pcsTxt r (b.drop n.toNat) := by
  unfold pcsTxt
  by_cases hb : b = []
  · subst hb
    rw [pcsC, if_pos (.inr rfl)]
    simp [chTxt0]
  · rw [pcsC, if_neg (by simp [hb]; omega), List.flatMap_cons]
    congr 1
    have : b.take n.toNat ≠ [] := by
      cases b with
      | nil => exact absurd rfl hb
      | cons c r => intro e; have := congrArg List.length e; simp at this; omega
    rw [chTxt0, if_neg this]
theorem pcsTxt_end (b : List UInt8) : pcsTxt [] b = chTxt0 b := by
  unfold pcsTxt chTxt0
  rw [pcsC]
  by_cases hb : b = []
  · simp [hb]
  · rw [if_neg hb, if_neg hb]; simp

theorem hexDig_le (f m : Nat) : (hexDig f m).length ≤ f := by
  induction f generalizing m with
  | zero => simp [hexDig]
  | succ f ih =>
    rw [hexDig]
    split
    · simp
    · have := ih (m / 16); simp; omega
theorem chTxt_len (m : List UInt8) : (chTxt m).length ≤ m.length + 20 := by
  have := hexDig_le 16 m.length
  unfold chTxt crlf hexDigits
  simp only [List.length_append, List.length_cons, List.length_nil]
  omega
theorem chTxt0_len (m : List UInt8) : (chTxt0 m).length ≤ 21 * m.length := by
  unfold chTxt0
  by_cases h : m = []
  · rw [if_pos h]; simp
  · rw [if_neg h]
    have := chTxt_len m
    have : 0 < m.length := List.length_pos_iff.2 h
    omega
theorem pcsTxt_len (ns : List Int) : ∀ b, (pcsTxt ns b).length ≤ 21 * b.length := by
  induction ns with
  | nil => intro b; rw [pcsTxt_end]; exact chTxt0_len b
  | cons n r ih =>
    intro b
    by_cases h : n < 1
    · rw [pcsTxt_skip r b h]; exact ih b
    · rw [pcsTxt_step r b (by omega), List.length_append]
      have h1 := chTxt0_len (b.take n.toNat)
      have h2 := ih (b.drop n.toNat)
      rw [List.length_take] at h1
      rw [List.length_drop] at h2
      omega
/-- How much the pieces have. -/
theorem pcsC_sum (ns : List Int) : ∀ b, (pcsC ns b).flatten = b := by
  induction ns with
  | nil => intro b; rw [pcsC]; by_cases hb : b = [] <;> simp [hb]
  | cons n r ih =>
    intro b
    rw [pcsC]
    split
    · exact ih b
    · rw [List.flatten_cons, ih, List.take_append_drop]
theorem pcsC_ne (ns : List Int) : ∀ b, ∀ m ∈ pcsC ns b, m ≠ [] := by
  induction ns with
  | nil => intro b m; rw [pcsC]; by_cases hb : b = [] <;> simp [hb]; intro e; rw [e]; exact hb
  | cons n r ih =>
    intro b m
    rw [pcsC]
    split
    · exact ih b m
    · rename_i h
      rw [List.mem_cons]
      rintro (rfl | hm)
      · cases b with
        | nil => exact absurd (.inr rfl) h
        | cons c q => intro e; have := congrArg List.length e; simp at this; omega
      · exact ih _ m hm
end Go.Proofs.YtnoijfnpchihoabDoor.M
namespace Go.Proofs.YtnoijfnpchihoabDoor
open M

theorem cut_to (t : ByteArray) (n : Nat) : t.extract 0 n = bytesOf (t.data.toList.take n) := by
  apply ByteArray.ext
  apply Array.toList_inj.1
  simp [bytesOf, ByteArray.data_extract]
theorem cut_from (t : ByteArray) (n : Nat) : (t.extract n t.size).data.toList = t.data.toList.drop n := by
  have : t.size = t.data.toList.length := (Array.length_toList).symm
  rw [ByteArray.data_extract, Array.toList_extract, this, List.extract_eq_take_drop, List.take_of_length_le (by rw [List.length_drop]; omega)]
theorem cut_none (t : ByteArray) : t.extract t.size t.size = ByteArray.empty := by
  apply ByteArray.ext
  have : (t.extract t.size t.size).data.size = 0 := by show (t.extract t.size t.size).size = 0; rw [ByteArray.size_extract]; omega
  exact Array.eq_empty_of_size_eq_zero this
end Go.Proofs.YtnoijfnpchihoabDoor
