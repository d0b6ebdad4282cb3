/-
  What strings.Clone does.
  What the program's Trim does.
  What the program's reader of pieces does: one looked at, one taken; or it gives up.
  Fields of a piece that a call handed back.
  What the program's reader of pieces does: blanks passed over, a text alone, what closes, and the end.
  What the program's reader of pieces does: a text alone in its mark.
  Trees that lie in blocks of their own.
  Rows of nodes that the call owns and that grow: one more behind, and what they hold.
  A node in a box, and that it stays.
  What the program's reader of pieces does: kids, up to what closes; one node.
-/
import Derived.Test.YtccehdlgpbeijaaGreatDoorShelf
import Derived.WalkKit
import Derived.WalkSpells
import Derived.WalkLawsBesides
import Derived.Test.YtccehdlgpbeijaaGreatDoorKinds
import Derived.Test.YtccehdlgpbeijaaGreatDoorRowsP
import Derived.Lib.BufferWrite
import Derived.Maps.AppendAt
namespace Go.Proofs.YtccehdlgpbeijaaGreatDoor
open Go.RowKit

set_option maxHeartbeats 400000 in
theorem clone_any (s : ByteArray) (w : World) (hs : s.size ≤ 281474976710656) :
    Calls Tryz.prog 58 #[.string s] w fun e w' => e = .returned (.string s) ∧ Below w.heap.size w w' := by
  go_enter Tryz.func58, Tryz.ntmps58
  go_wp2_with (go_at_call 80; refine (Tryz.stringslite_Clone s _ hs).mono ?_; rintro e w1 ⟨rfl, hb1⟩)
  go_ret
  exact ⟨rfl, hb1⟩
end Go.Proofs.YtccehdlgpbeijaaGreatDoor
namespace Go.Proofs.YtccehdlgpbeijaaGreatDoor
open Go.RowKit M

set_option maxHeartbeats 1000000 in
theorem trim_any (s : ByteArray) (w : World) (hs : s.size ≤ 281474976710656) :
    Calls Tryz.prog 70 #[.string s] w fun e w' => (∃ t : ByteArray, e = .returned (.string t) ∧ t.data.toList = trimL s.data.toList) ∧ Below w.heap.size w w' := by
  go_enter Tryz.func70, Tryz.ntmps70
  go_wp2
  go_loopw [3] (fun i wr => ∃ a : Nat, a ≤ s.size ∧ i = .int .i64 a ∧ Below w.heap.size w wr ∧ trimL (cut s a s.size) = trimL s.data.toList) (fun i _ => s.size - (intOf i).toNat)
  case atStart => exact ⟨0, Nat.zero_le _, rfl, Below.refl _ _, by rw [cut_all]⟩
  case round =>
    obtain ⟨a, ha, rfl, hbe, hn⟩ := hrel
    have HN : Hid (trimL (cut s a s.size) = trimL s.data.toList) := hn; clear hn
    by_cases h0 : a < s.size
    · cases hb : bl s[a]
      · go_wp2_with (go_at_call 90; refine (isOneOf_any _ [1] 1 _ 0 1 _ rfl (by decide) (cells1 _ 1 121)).mono ?_; rintro e w' ⟨rfl, rfl⟩; rw [anyB_bl, hb])
        have hbe1 : Below w.heap.size w (wr.alloc (Obj.cells #[Value.int IntKind.i64 1] 121)) := hbe.alloc hbe.size _
        go_loopw [4] (fun j wx => ∃ b : Nat, a ≤ b ∧ b ≤ s.size ∧ j = .int .i64 b ∧ Below w.heap.size w wx ∧ trimL (cut s a b) = trimL s.data.toList) (fun j _ => (intOf j).toNat)
        case atStart => exact ⟨s.size, ha, Nat.le_refl _, rfl, hbe1, HN.out⟩
        case round =>
          clear hbe1 hbe
          obtain ⟨b, hab, hbs, rfl, hbx, hn⟩ := hrel
          have HB : Hid (trimL (cut s a b) = trimL s.data.toList) := hn; clear hn
          by_cases h1 : a < b
          · cases hb1 : bl s[b - 1]
            · have HD : Hid ((s.extract a b).data.toList = trimL s.data.toList) := by
                show _ = _
                rw [← HB.out, extract_cut, cut_trim_done s a b hbs h1 hb hb1]
              have hsz : (s.extract a b).size ≤ 281474976710656 := by rw [size_extract s a b hbs]; omega
              go_wp2_with (first | (go_at_call 90; refine (isOneOf_any _ [1] 1 _ 0 1 _ rfl (by decide) (cells1 _ 1 121)).mono ?_; rintro e w' ⟨rfl, rfl⟩; rw [anyB_bl, hb1]) | (go_at_call 58; refine (clone_any _ _ hsz).mono ?_; rintro e w1 ⟨rfl, hb2⟩))
              go_ret
              exact ⟨⟨_, rfl, HD.out⟩, (hbx.alloc hbx.size _).trans (hb2.mono (by have := hbx.size; simp; omega))⟩
            · go_wp2_with (go_at_call 90; refine (isOneOf_any _ [1] 1 _ 0 1 _ rfl (by decide) (cells1 _ 1 121)).mono ?_; rintro e w' ⟨rfl, rfl⟩; rw [anyB_bl, hb1])
              go_roundw
              case rel => exact ⟨b - 1, by omega, by omega, by go_num, hbx.alloc hbx.size _, by rw [← HB.out]; exact (cut_trim_back s a b hbs h1 hb1).symm⟩
              case measure => simp [intOf]; omega
          · have HD : Hid ((s.extract a b).data.toList = trimL s.data.toList) := by
              show _ = _
              rw [← HB.out, extract_cut, cut_empty s a b (by omega)]; rfl
            have hsz : (s.extract a b).size ≤ 281474976710656 := by rw [size_extract s a b hbs]; omega
            go_wp2_with (go_at_call 58; refine (clone_any _ _ hsz).mono ?_; rintro e w1 ⟨rfl, hb2⟩)
            go_ret
            exact ⟨⟨_, rfl, HD.out⟩, hbx.trans (hb2.mono hbx.size)⟩
      · go_wp2_with (go_at_call 90; refine (isOneOf_any _ [1] 1 _ 0 1 _ rfl (by decide) (cells1 _ 1 121)).mono ?_; rintro e w' ⟨rfl, rfl⟩; rw [anyB_bl, hb])
        go_roundw
        case rel => exact ⟨a + 1, by omega, by go_num, hbe.alloc hbe.size _, by rw [← HN.out]; exact (cut_trim_front s a s.size (Nat.le_refl _) h0 hb).symm⟩
        case measure => simp [intOf]; omega
    · have HD : Hid ((s.extract a s.size).data.toList = trimL s.data.toList) := by
        show _ = _
        rw [← HN.out, extract_cut, cut_empty s _ _ (by omega)]; rfl
      have hsz : (s.extract a s.size).size ≤ 281474976710656 := by rw [size_extract s _ _ (Nat.le_refl _)]; omega
      go_wp2
      go_loopw [4] (fun j wx => j = .int .i64 s.size ∧ wx = wr) (fun j _ => (intOf j).toNat)
      case atStart => exact ⟨rfl, rfl⟩
      case round =>
        obtain ⟨rfl, rfl⟩ := hrel
        go_wp2_with (go_at_call 58; refine (clone_any _ _ hsz).mono ?_; rintro e w1 ⟨rfl, hb2⟩)
        go_ret
        exact ⟨⟨_, rfl, HD.out⟩, hbe.trans (hb2.mono hbe.size)⟩
end Go.Proofs.YtccehdlgpbeijaaGreatDoor
namespace Go.Proofs.YtccehdlgpbeijaaGreatDoor
open Go.RowKit M
set_option linter.unusedVariables false

/-- It gives up. -/
def gaveUp : Ending := .panicked [{ v := .iface 9 (.string ⟨#[116, 104, 105, 115, 32, 105, 115, 32, 110, 111, 32, 116, 101, 120, 116, 32, 111, 102, 32, 97, 32, 78, 111, 100, 101]⟩), recovered := false }]
def pcV (p : Pce) : Value := .agg #[.int .i64 p.k, .string p.name, .string p.ns, .bool p.has, .string p.s]

/-- A reader in its block, with the pieces that are left, which lie below B. -/
structure Rd (w : World) (N B : Nat) (ps : List Pce) : Prop where
  lt : N < w.heap.size
  hB : B ≤ N
  fz : w.frozen? ⟨N, 0, none⟩ = false
  row : ∃ a c, w.cell? ⟨N, 0, none⟩ = some (.slice a ps.length c) ∧ Pcs w B a ps ∧ ps.length ≤ c ∧ c ≤ maxLen
theorem Rd.next {w w' : World} {N B : Nat} {ps : List Pce} (h : Rd w N B ps) (hb : Below w.heap.size w w') : Rd w' N B ps := by
  obtain ⟨a, c, h1, h2, h3, h4⟩ := h.row
  have := h.lt
  have := h.hB
  exact ⟨Nat.lt_of_lt_of_le h.lt hb.size, h.hB, (hb.frozen (p := ⟨N, 0, none⟩) h.lt).trans h.fz, a, c, (hb.cell (p := ⟨N, 0, none⟩) h.lt).trans h1, h2.below hb (by omega), h3, h4⟩
theorem Rd.set {w : World} {N B : Nat} {ps qs : List Pce} (h : Rd w N B ps) (a : Option Addr) (c : Nat) (hq : Pcs w B a qs) (h3 : qs.length ≤ c) (h4 : c ≤ maxLen) : Rd (w.setCell ⟨N, 0, none⟩ (.slice a qs.length c)) N B qs := by
  obtain ⟨a0, c0, h1, _, _, _⟩ := h.row
  refine ⟨by simpa using h.lt, h.hB, by rw [World.frozen?_setCell]; exact h.fz, a, c, World.cell?_setCell_same _ _ _ h1, fun h0 => ?_, h3, h4⟩
  obtain ⟨b, o, e, hb, hc⟩ := hq h0
  have hB := h.hB
  have k : ∀ i, (w.setCell ⟨N, 0, none⟩ (.slice a qs.length c)).cell? ⟨b, i, none⟩ = w.cell? ⟨b, i, none⟩ := fun i => World.cell?_setCell_other _ _ _ _ (fun e => by have := congrArg Addr.block e; simp at this; omega)
  exact ⟨b, o, e, hb, fun j hj => by simp only [k]; exact hc j hj⟩
theorem Pcs.tail {w : World} {B b o : Nat} {p : Pce} {r : List Pce} (h : Pcs w B (some ⟨b, o, none⟩) (p :: r)) : Pcs w B (some ⟨b, o + 5, none⟩) r := fun h0 => by
  obtain ⟨b', o', e, hb, hc⟩ := h (by simp)
  cases e
  refine ⟨b, o + 5, rfl, hb, fun j hj => ?_⟩
  have := hc (j + 1) (by simpa using hj)
  have e : o + (j + 1) * 5 = o + 5 + j * 5 := by omega
  rw [e] at this
  simpa using this

theorem Rd.other {w : World} {N B : Nat} {ps : List Pce} (h : Rd w N B ps) (q : Addr) (v : Value) (h1 : q.block ≠ N) (h2 : B ≤ q.block) : Rd (w.setCell q v) N B ps := by
  obtain ⟨a, c, k1, k2, k3, k4⟩ := h.row
  refine ⟨by simpa using h.lt, h.hB, by rw [World.frozen?_setCell]; exact h.fz, a, c, by rw [World.cell?_setCell_other _ _ _ _ (fun e => h1 (by have := congrArg Addr.block e; simpa using this))]; exact k1, fun h0 => ?_, k3, k4⟩
  obtain ⟨b, o, e, hb, hc⟩ := k2 h0
  have k : ∀ i, (w.setCell q v).cell? ⟨b, i, none⟩ = w.cell? ⟨b, i, none⟩ := fun i => World.cell?_setCell_other _ _ _ _ (fun e => by have := congrArg Addr.block e; simp at this; omega)
  exact ⟨b, o, e, hb, fun j hj => by simp only [k]; exact hc j hj⟩
theorem grownR_below {w w1 w2 : World} {N : Nat} (h : w.grownBy w1 (some N)) (hb : Below w.heap.size w1 w2) : w.grownBy w2 (some N) :=
  ⟨hb.os.trans h.os, hb.tape.trans h.tape, hb.output.trans h.output, Nat.le_trans h.size hb.size, fun i hi hne => (hb.block i hi).trans (h.block i hi hne)⟩
theorem grownR_of {w w1 : World} {N : Nat} (hb : Below w.heap.size w w1) : w.grownBy w1 (some N) := ⟨hb.os, hb.tape, hb.output, hb.size, fun i hi _ => hb.block i hi⟩
theorem grownR_set {w w1 : World} {N : Nat} (h : w.grownBy w1 (some N)) (o : Nat) (v : Value) : w.grownBy (w1.setCell ⟨N, o, none⟩ v) (some N) :=
  ⟨h.os, h.tape, h.output, by simpa using h.size, fun i hi hne => (Below.heap_setCell w1 ⟨N, o, none⟩ v i (fun e => hne (by rw [e]))).trans (h.block i hi hne)⟩
theorem grownR_trans {w w1 w2 : World} {N : Nat} (h : w.grownBy w1 (some N)) (k : w1.grownBy w2 (some N)) : w.grownBy w2 (some N) :=
  ⟨k.os.trans h.os, k.tape.trans h.tape, k.output.trans h.output, Nat.le_trans h.size k.size, fun i hi hne => (k.block i (Nat.lt_of_lt_of_le hi h.size) hne).trans (h.block i hi hne)⟩

set_option maxRecDepth 100000 in
set_option maxHeartbeats 1000000 in
theorem peek_some (N B : Nat) (p : Pce) (r : List Pce) (w : World) (h : Rd w N B (p :: r)) :
    Calls Tryz.prog 91 #[.pointer (some ⟨N, 0, none⟩)] w fun e w' => e = .returned (pcV p) ∧ Below w.heap.size w w' := by
  obtain ⟨a, c, h1, h2, h3, h4⟩ := h.row
  obtain ⟨b, o, rfl, hb, hc⟩ := h2 (by simp)
  obtain ⟨k0, k1, k2, k3, k4⟩ := hc 0 (by simp)
  simp only [Nat.zero_mul, Nat.add_zero, List.getElem_cons_zero] at k0 k1 k2 k3 k4
  have hlt := h.lt
  have hBN := h.hB
  have hl : (p :: r).length = r.length + 1 := rfl
  rw [hl] at h1
  have hne : ¬ N = w.heap.size := by omega
  have hne2 : ¬ b = w.heap.size := by omega
  have hlb : b < w.heap.size := by omega
  have hll : r.length + 1 ≤ 9223372036854775807 := by unfold maxLen at h4; simp at h3; omega
  have hq : ((r.length : Int) + 1 == 0) = false := by rw [beq_eq_false_iff_ne]; omega
  clear h h2 hc
  go_enter Tryz.func91, Tryz.ntmps91
  go_wp2
  refine bodyPost_ret (v := pcV p) (by simp [results, Tryz.results91, go_sem, pcV]) rfl ⟨rfl, ?_⟩
  exact (Below.refl _ _).alloc (Nat.le_refl _) _

set_option maxHeartbeats 1000000 in
theorem peek_none (N B : Nat) (w : World) (h : Rd w N B []) :
    Calls Tryz.prog 91 #[.pointer (some ⟨N, 0, none⟩)] w fun e w' => e = gaveUp ∧ Below w.heap.size w w' := by
  obtain ⟨a, c, h1, h2, h3, h4⟩ := h.row
  have hlt := h.lt
  have hne : ¬ N = w.heap.size := by omega
  clear h h2
  go_enter Tryz.func91, Tryz.ntmps91
  go_wp2
  exact ⟨rfl, rfl, (Below.refl _ _).alloc (Nat.le_refl _) _⟩

set_option maxRecDepth 100000 in
set_option maxHeartbeats 2000000 in
theorem next_some (N B : Nat) (p : Pce) (r : List Pce) (w : World) (h : Rd w N B (p :: r)) :
    Calls Tryz.prog 71 #[.pointer (some ⟨N, 0, none⟩)] w fun e w' => e = .returned (pcV p) ∧ Rd w' N B r ∧ w.grownBy w' (some N) := by
  have hlt := h.lt
  have hb0 : Below w.heap.size w (w.alloc (Obj.cells #[Value.int .i64 0, Value.string { data := #[] }, Value.string { data := #[] }, Value.bool false, Value.string { data := #[] }] 89)) := (Below.refl _ _).alloc (Nat.le_refl _) _
  have HQ := hide (peek_some N B p r _ (h.next hb0))
  have HB0 := hide hb0
  have H := hide h
  clear h hb0
  go_enter Tryz.func71, Tryz.ntmps71
  go_wp2_with fail
  refine HQ.out.mono ?_
  rintro e w1 ⟨rfl, b1⟩
  unfold pcV
  have c1 := HB0.out.trans (b1.mono HB0.out.size)
  have z1 := c1.size
  have ba := (Below.refl w1.heap.size w1).alloc (Nat.le_refl _) (Obj.cells #[.int .i64 p.k, .string p.name, .string p.ns, .bool p.has, .string p.s] 89)
  have h2 := (H.out.next c1).next ba
  have H2 := hide h2
  obtain ⟨a, c, k1, k2, k3, k4⟩ := h2.row
  have kf := h2.fz
  have hBN := h2.hB
  obtain ⟨b, o, rfl, hb, _⟩ := k2 (by simp)
  have k2' := k2
  have hl : (p :: r).length = r.length + 1 := rfl
  rw [hl] at k1 k3
  have h1w : w.heap.size < w1.heap.size := by have := b1.size; simp at this; omega
  have r0 : w1.cell? ⟨w.heap.size, 0, none⟩ = some (.int .i64 0) := (b1.cell (p := ⟨w.heap.size, 0, none⟩) (by simp)).trans (by simp)
  have r1 : w1.cell? ⟨w.heap.size, 1, none⟩ = some (.string { data := #[] }) := (b1.cell (p := ⟨w.heap.size, 1, none⟩) (by simp)).trans (by simp)
  have r2 : w1.cell? ⟨w.heap.size, 2, none⟩ = some (.string { data := #[] }) := (b1.cell (p := ⟨w.heap.size, 2, none⟩) (by simp)).trans (by simp)
  have r3 : w1.cell? ⟨w.heap.size, 3, none⟩ = some (.bool false) := (b1.cell (p := ⟨w.heap.size, 3, none⟩) (by simp)).trans (by simp)
  have r4 : w1.cell? ⟨w.heap.size, 4, none⟩ = some (.string { data := #[] }) := (b1.cell (p := ⟨w.heap.size, 4, none⟩) (by simp)).trans (by simp)
  have f0 : ∀ i, w1.frozen? ⟨w.heap.size, i, none⟩ = false := fun i => (b1.frozen (p := ⟨w.heap.size, i, none⟩) (by simp)).trans (by simp)
  have g0 := f0 0
  have g1 := f0 1
  have g2 := f0 2
  have g3 := f0 3
  have g4 := f0 4
  have hNw : ¬ N = w1.heap.size := by omega
  have hNw2 : ¬ w.heap.size = N := by omega
  have hNw3 : ¬ w.heap.size = w1.heap.size := by omega
  have hll : r.length + 1 ≤ 9223372036854775807 := by unfold maxLen at k4; omega
  clear f0
  by_cases hc1 : c = 1
  · subst hc1
    have hr : r = [] := List.eq_nil_of_length_eq_zero (by omega)
    subst hr
    have hs := H2.out.set (qs := []) (some ⟨b, o, none⟩) 0 (fun h0 => absurd h0 (Nat.lt_irrefl _)) (Nat.le_refl _) (Nat.zero_le _)
    have HR := hide (((((hs.other ⟨w.heap.size, 0, none⟩ (.int .i64 p.k) (by simp; omega) (by simp; omega)).other ⟨w.heap.size, 1, none⟩ (.string p.name) (by simp; omega) (by simp; omega)).other ⟨w.heap.size, 2, none⟩ (.string p.ns) (by simp; omega) (by simp; omega)).other ⟨w.heap.size, 3, none⟩ (.bool p.has) (by simp; omega) (by simp; omega)).other ⟨w.heap.size, 4, none⟩ (.string p.s) (by simp; omega) (by simp; omega))
    have HG := hide (grownR_below (grownR_set (grownR_of (N := N) (c1.trans (ba.mono z1))) 0 (.slice (some ⟨b, o, none⟩) 0 0)) (((((((Below.refl w.heap.size _).setCell (p := ⟨w.heap.size, 0, none⟩) (Nat.le_refl _) (.int .i64 p.k)).setCell (p := ⟨w.heap.size, 1, none⟩) (Nat.le_refl _) (.string p.name)).setCell (p := ⟨w.heap.size, 2, none⟩) (Nat.le_refl _) (.string p.ns)).setCell (p := ⟨w.heap.size, 3, none⟩) (Nat.le_refl _) (.bool p.has)).setCell (p := ⟨w.heap.size, 4, none⟩) (Nat.le_refl _) (.string p.s))))
    clear hs
    go_wp2
    have x0 : ((w1.alloc (Obj.cells #[.int .i64 p.k, .string p.name, .string p.ns, .bool p.has, .string p.s] 89)).setCell ⟨N, 0, none⟩ (.slice (some ⟨b, o, none⟩) 0 0)).cell? ⟨w.heap.size, 0, none⟩ = some (.int .i64 0) := (World.cell?_setCell_other _ _ _ _ (fun e => by have := congrArg Addr.block e; simp at this; omega)).trans ((ba.cell (p := ⟨w.heap.size, 0, none⟩) h1w).trans r0)
    have x1 : ((w1.alloc (Obj.cells #[.int .i64 p.k, .string p.name, .string p.ns, .bool p.has, .string p.s] 89)).setCell ⟨N, 0, none⟩ (.slice (some ⟨b, o, none⟩) 0 0)).cell? ⟨w.heap.size, 1, none⟩ = some (.string { data := #[] }) := (World.cell?_setCell_other _ _ _ _ (fun e => by have := congrArg Addr.block e; simp at this; omega)).trans ((ba.cell (p := ⟨w.heap.size, 1, none⟩) h1w).trans r1)
    have x2 : ((w1.alloc (Obj.cells #[.int .i64 p.k, .string p.name, .string p.ns, .bool p.has, .string p.s] 89)).setCell ⟨N, 0, none⟩ (.slice (some ⟨b, o, none⟩) 0 0)).cell? ⟨w.heap.size, 2, none⟩ = some (.string { data := #[] }) := (World.cell?_setCell_other _ _ _ _ (fun e => by have := congrArg Addr.block e; simp at this; omega)).trans ((ba.cell (p := ⟨w.heap.size, 2, none⟩) h1w).trans r2)
    have x3 : ((w1.alloc (Obj.cells #[.int .i64 p.k, .string p.name, .string p.ns, .bool p.has, .string p.s] 89)).setCell ⟨N, 0, none⟩ (.slice (some ⟨b, o, none⟩) 0 0)).cell? ⟨w.heap.size, 3, none⟩ = some (.bool false) := (World.cell?_setCell_other _ _ _ _ (fun e => by have := congrArg Addr.block e; simp at this; omega)).trans ((ba.cell (p := ⟨w.heap.size, 3, none⟩) h1w).trans r3)
    have x4 : ((w1.alloc (Obj.cells #[.int .i64 p.k, .string p.name, .string p.ns, .bool p.has, .string p.s] 89)).setCell ⟨N, 0, none⟩ (.slice (some ⟨b, o, none⟩) 0 0)).cell? ⟨w.heap.size, 4, none⟩ = some (.string { data := #[] }) := (World.cell?_setCell_other _ _ _ _ (fun e => by have := congrArg Addr.block e; simp at this; omega)).trans ((ba.cell (p := ⟨w.heap.size, 4, none⟩) h1w).trans r4)
    refine bodyPost_ret (v := .agg #[.int .i64 p.k, .string p.name, .string p.ns, .bool p.has, .string p.s]) (by simp [results, Tryz.results71, go_sem, x0, x1, x2, x3, x4]) rfl ⟨rfl, by simpa using HR.out, by simpa using HG.out⟩
  · have hs := H2.out.set (qs := r) (some ⟨b, o + 5, none⟩) (c - 1) k2'.tail (by omega) (by omega)
    have HR := hide (((((hs.other ⟨w.heap.size, 0, none⟩ (.int .i64 p.k) (by simp; omega) (by simp; omega)).other ⟨w.heap.size, 1, none⟩ (.string p.name) (by simp; omega) (by simp; omega)).other ⟨w.heap.size, 2, none⟩ (.string p.ns) (by simp; omega) (by simp; omega)).other ⟨w.heap.size, 3, none⟩ (.bool p.has) (by simp; omega) (by simp; omega)).other ⟨w.heap.size, 4, none⟩ (.string p.s) (by simp; omega) (by simp; omega))
    have HG := hide (grownR_below (grownR_set (grownR_of (N := N) (c1.trans (ba.mono z1))) 0 (.slice (some ⟨b, o + 5, none⟩) r.length (c - 1))) (((((((Below.refl w.heap.size _).setCell (p := ⟨w.heap.size, 0, none⟩) (Nat.le_refl _) (.int .i64 p.k)).setCell (p := ⟨w.heap.size, 1, none⟩) (Nat.le_refl _) (.string p.name)).setCell (p := ⟨w.heap.size, 2, none⟩) (Nat.le_refl _) (.string p.ns)).setCell (p := ⟨w.heap.size, 3, none⟩) (Nat.le_refl _) (.bool p.has)).setCell (p := ⟨w.heap.size, 4, none⟩) (Nat.le_refl _) (.string p.s))))
    clear hs
    go_wp2
    have x0 : ((w1.alloc (Obj.cells #[.int .i64 p.k, .string p.name, .string p.ns, .bool p.has, .string p.s] 89)).setCell ⟨N, 0, none⟩ (.slice (some ⟨b, o + 5, none⟩) r.length (c - 1))).cell? ⟨w.heap.size, 0, none⟩ = some (.int .i64 0) := (World.cell?_setCell_other _ _ _ _ (fun e => by have := congrArg Addr.block e; simp at this; omega)).trans ((ba.cell (p := ⟨w.heap.size, 0, none⟩) h1w).trans r0)
    have x1 : ((w1.alloc (Obj.cells #[.int .i64 p.k, .string p.name, .string p.ns, .bool p.has, .string p.s] 89)).setCell ⟨N, 0, none⟩ (.slice (some ⟨b, o + 5, none⟩) r.length (c - 1))).cell? ⟨w.heap.size, 1, none⟩ = some (.string { data := #[] }) := (World.cell?_setCell_other _ _ _ _ (fun e => by have := congrArg Addr.block e; simp at this; omega)).trans ((ba.cell (p := ⟨w.heap.size, 1, none⟩) h1w).trans r1)
    have x2 : ((w1.alloc (Obj.cells #[.int .i64 p.k, .string p.name, .string p.ns, .bool p.has, .string p.s] 89)).setCell ⟨N, 0, none⟩ (.slice (some ⟨b, o + 5, none⟩) r.length (c - 1))).cell? ⟨w.heap.size, 2, none⟩ = some (.string { data := #[] }) := (World.cell?_setCell_other _ _ _ _ (fun e => by have := congrArg Addr.block e; simp at this; omega)).trans ((ba.cell (p := ⟨w.heap.size, 2, none⟩) h1w).trans r2)
    have x3 : ((w1.alloc (Obj.cells #[.int .i64 p.k, .string p.name, .string p.ns, .bool p.has, .string p.s] 89)).setCell ⟨N, 0, none⟩ (.slice (some ⟨b, o + 5, none⟩) r.length (c - 1))).cell? ⟨w.heap.size, 3, none⟩ = some (.bool false) := (World.cell?_setCell_other _ _ _ _ (fun e => by have := congrArg Addr.block e; simp at this; omega)).trans ((ba.cell (p := ⟨w.heap.size, 3, none⟩) h1w).trans r3)
    have x4 : ((w1.alloc (Obj.cells #[.int .i64 p.k, .string p.name, .string p.ns, .bool p.has, .string p.s] 89)).setCell ⟨N, 0, none⟩ (.slice (some ⟨b, o + 5, none⟩) r.length (c - 1))).cell? ⟨w.heap.size, 4, none⟩ = some (.string { data := #[] }) := (World.cell?_setCell_other _ _ _ _ (fun e => by have := congrArg Addr.block e; simp at this; omega)).trans ((ba.cell (p := ⟨w.heap.size, 4, none⟩) h1w).trans r4)
    refine bodyPost_ret (v := .agg #[.int .i64 p.k, .string p.name, .string p.ns, .bool p.has, .string p.s]) (by simp [results, Tryz.results71, go_sem, x0, x1, x2, x3, x4]) rfl ⟨rfl, by simpa using HR.out, by simpa using HG.out⟩
end Go.Proofs.YtccehdlgpbeijaaGreatDoor
namespace Go.Proofs.YtccehdlgpbeijaaGreatDoor
open Go.RowKit M
set_option linter.unusedVariables false

theorem fieldK (p : Pce) (w : World) : (Instr.field 89 (.agg #[.int .i64 p.k, .string p.name, .string p.ns, .bool p.has, .string p.s]) 0).run Tryz.prog w = .ok (.int .i64 p.k) w := by
  simp [Instr.field, run_underlying Tryz.underlying89, go_sem]
  rfl
theorem fieldName (p : Pce) (w : World) : (Instr.field 89 (.agg #[.int .i64 p.k, .string p.name, .string p.ns, .bool p.has, .string p.s]) 1).run Tryz.prog w = .ok (.string p.name) w := by
  simp [Instr.field, run_underlying Tryz.underlying89, go_sem]
  rfl
theorem fieldS (p : Pce) (w : World) : (Instr.field 89 (.agg #[.int .i64 p.k, .string p.name, .string p.ns, .bool p.has, .string p.s]) 4).run Tryz.prog w = .ok (.string p.s) w := by
  simp [Instr.field, run_underlying Tryz.underlying89, go_sem]
  rfl
end Go.Proofs.YtccehdlgpbeijaaGreatDoor
namespace Go.Proofs.YtccehdlgpbeijaaGreatDoor
open Go.RowKit M
set_option linter.unusedVariables false

theorem emptyT8 {s : ByteArray} (h : s.data.toList = []) : s.toList.isEmpty = true := by rw [ByteArray.toList_eq, h]; rfl
theorem emptyF8 {s : ByteArray} (h : ¬ s.data.toList = []) : s.toList.isEmpty = false := by
  rw [ByteArray.toList_eq]
  cases e : s.data.toList with
  | nil => exact absurd e h
  | cons a b => rfl

set_option maxHeartbeats 1000000 in
theorem next_none (N B : Nat) (w : World) (h : Rd w N B []) :
    Calls Tryz.prog 71 #[.pointer (some ⟨N, 0, none⟩)] w fun e w' => e = gaveUp ∧ Below w.heap.size w w' := by
  have hb0 : Below w.heap.size w (w.alloc (Obj.cells #[Value.int .i64 0, Value.string { data := #[] }, Value.string { data := #[] }, Value.bool false, Value.string { data := #[] }] 89)) := (Below.refl _ _).alloc (Nat.le_refl _) _
  have HQ := hide (peek_none N B _ (h.next hb0))
  have HB0 := hide hb0
  clear h hb0
  go_enter Tryz.func71, Tryz.ntmps71
  go_wp2_with fail
  refine HQ.out.mono ?_
  rintro e w1 ⟨rfl, b1⟩
  exact ⟨rfl, rfl, HB0.out.trans (b1.mono HB0.out.size)⟩

set_option maxHeartbeats 1000000 in
theorem end_some (N B : Nat) (p : Pce) (r : List Pce) (w : World) (h : Rd w N B (p :: r)) :
    Calls Tryz.prog 52 #[.pointer (some ⟨N, 0, none⟩)] w fun e w' => e = gaveUp ∧ w' = w := by
  obtain ⟨a, c, h1, h2, h3, h4⟩ := h.row
  have hl : (p :: r).length = r.length + 1 := rfl
  rw [hl] at h1
  have hll : r.length + 1 ≤ 9223372036854775807 := by unfold maxLen at h4; simp at h3; omega
  clear h h2
  go_enter Tryz.func52, Tryz.ntmps52
  go_wp2
  exact ⟨rfl, rfl, rfl⟩
set_option maxHeartbeats 1000000 in
theorem end_none (N B : Nat) (w : World) (h : Rd w N B []) :
    Calls Tryz.prog 52 #[.pointer (some ⟨N, 0, none⟩)] w fun e w' => e = .returned (.tuple #[]) ∧ w' = w := by
  obtain ⟨a, c, h1, h2, h3, h4⟩ := h.row
  simp only [List.length_nil] at h1
  clear h h2
  go_enter Tryz.func52, Tryz.ntmps52
  go_wp2
  go_end0
  exact ⟨rfl, rfl⟩

set_option maxRecDepth 100000 in
set_option maxHeartbeats 1000000 in
theorem close_any (N B : Nat) (p : Pce) (r : List Pce) (nm : ByteArray) (w : World) (h : Rd w N B (p :: r)) :
    Calls Tryz.prog 74 #[.pointer (some ⟨N, 0, none⟩), .string nm] w fun e w' => e = (if p.name = nm then .returned (.tuple #[]) else gaveUp) ∧ (p.name = nm → Rd w' N B r) ∧ w.grownBy w' (some N) := by
  have HQ := hide (next_some N B p r w h)
  clear h
  by_cases hn : p.name = nm
  · have q1 := eqStrN hn
    rw [if_pos hn]
    have HN := hide hn
    clear hn
    go_enter Tryz.func74, Tryz.ntmps74
    go_wp2_with fail
    refine HQ.out.mono ?_
    rintro e w1 ⟨rfl, r1, g1⟩
    have R1 := hide r1
    have G1 := hide g1
    clear r1 g1
    unfold pcV
    have hfd := fieldName p
    go_wp2
    go_end0
    exact ⟨rfl, fun _ => R1.out, G1.out⟩
  · have q1 := neStrN hn
    rw [if_neg hn]
    have HN := hide hn
    clear hn
    go_enter Tryz.func74, Tryz.ntmps74
    go_wp2_with fail
    refine HQ.out.mono ?_
    rintro e w1 ⟨rfl, r1, g1⟩
    have R1 := hide r1
    have G1 := hide g1
    clear r1 g1
    unfold pcV
    have hfd := fieldName p
    go_wp2
    exact ⟨rfl, rfl, fun h => absurd h HN.out, G1.out⟩

set_option maxRecDepth 100000 in
set_option maxHeartbeats 4000000 in
theorem blanks_any (N B : Nat) (ps : List Pce) (w : World) (h : Rd w N B ps) (hz : ∀ p ∈ ps, p.s.size ≤ 1048576) :
    Calls Tryz.prog 50 #[.pointer (some ⟨N, 0, none⟩)] w fun e w' => e = .returned (.tuple #[]) ∧ Rd w' N B (skipP ps) ∧ w.grownBy w' (some N) := by
  have H := hide h
  obtain ⟨a, c, h1, h2, h3, h4⟩ := h.row
  have hlt := h.lt
  have hBN := h.hB
  cases ps with
  | nil =>
    simp only [List.length_nil] at h1
    clear h h2 hz
    go_enter Tryz.func50, Tryz.ntmps50
    go_wp2
    go_end0
    exact ⟨rfl, H.out, grownR_of (Below.refl _ _)⟩
  | cons p r =>
    obtain ⟨b, o, rfl, hb, hc⟩ := h2 (by simp)
    obtain ⟨k0, k1, k2, k3, k4⟩ := hc 0 (by simp)
    simp only [Nat.zero_mul, Nat.add_zero, List.getElem_cons_zero] at k0 k4
    have hl : (p :: r).length = r.length + 1 := rfl
    rw [hl] at h1 h3
    have hll : r.length + 1 ≤ 9223372036854775807 := by unfold maxLen at h4; omega
    have hlb : b < w.heap.size := by omega
    have hzp := hz p (by simp)
    clear h h2 hc k1 k2 k3 hz
    by_cases hk : p.k = 4
    · have HT := hide (trim_any p.s w (by omega))
      by_cases ht : trimL p.s.data.toList = []
      · have HS : Hid (skipP (p :: r) = r) := by show skipP (p :: r) = r; rw [skipP, if_pos (by simp [blankP, hk, ht])]
        rw [hk] at k0
        rw [ht] at HT
        clear hk ht
        go_enter Tryz.func50, Tryz.ntmps50
        go_wp2_with fail
        refine HT.out.mono ?_
        rintro e w1 ⟨⟨t, rfl, ht⟩, b1⟩
        have q1 := emptyT8 ht
        have HQ := hide (next_some N B p r w1 (H.out.next b1))
        have G0 := hide (grownR_of (N := N) b1)
        clear ht b1
        go_wp2_with fail
        refine HQ.out.mono ?_
        rintro e w2 ⟨rfl, r2, g2⟩
        have R2 := hide r2
        have G2 := hide (grownR_trans G0.out g2)
        clear r2 g2
        go_wp2
        go_end0
        exact ⟨rfl, by rw [HS.out]; exact R2.out, G2.out⟩
      · have HS : Hid (skipP (p :: r) = p :: r) := by show skipP (p :: r) = p :: r; rw [skipP, if_neg (by simp [blankP, ht])]
        rw [hk] at k0
        have HT2 := hide ht
        clear hk ht
        go_enter Tryz.func50, Tryz.ntmps50
        go_wp2_with fail
        refine HT.out.mono ?_
        rintro e w1 ⟨⟨t, rfl, ht⟩, b1⟩
        have q1 := emptyF8 (s := t) (by rw [ht]; exact HT2.out)
        have R1 := hide (H.out.next b1)
        have G0 := hide (grownR_of (N := N) b1)
        clear ht b1
        go_wp2
        go_end0
        exact ⟨rfl, by rw [HS.out]; exact R1.out, G0.out⟩
    · have HS : Hid (skipP (p :: r) = p :: r) := by show skipP (p :: r) = p :: r; rw [skipP, if_neg (by simp [blankP, hk])]
      have hkb : (p.k == 4) = false := by rw [beq_eq_false_iff_ne]; exact hk
      clear hk
      go_enter Tryz.func50, Tryz.ntmps50
      go_wp2
      go_end0
      exact ⟨rfl, by rw [HS.out]; exact H.out, grownR_of (Below.refl _ _)⟩
end Go.Proofs.YtccehdlgpbeijaaGreatDoor
namespace Go.Proofs.YtccehdlgpbeijaaGreatDoor
open Go.RowKit M
set_option linter.unusedVariables false

set_option maxRecDepth 100000 in
set_option maxHeartbeats 4000000 in
theorem textAlone_any (N B : Nat) (ps : List Pce) (w : World) (h : Rd w N B ps) :
    Calls Tryz.prog 72 #[.pointer (some ⟨N, 0, none⟩)] w fun e w' => e = .returned (.string (aloneP ps).1) ∧ Rd w' N B (aloneP ps).2 ∧ w.grownBy w' (some N) := by
  have H := hide h
  obtain ⟨a, c, h1, h2, h3, h4⟩ := h.row
  have hlt := h.lt
  have hBN := h.hB
  cases ps with
  | nil =>
    simp only [List.length_nil] at h1
    clear h h2
    go_enter Tryz.func72, Tryz.ntmps72
    go_wp2
    go_ret
    exact ⟨rfl, H.out, grownR_of (Below.refl _ _)⟩
  | cons p t =>
  cases t with
  | nil =>
    simp only [List.length_cons, List.length_nil, Nat.zero_add] at h1
    clear h h2
    go_enter Tryz.func72, Tryz.ntmps72
    go_wp2
    go_ret
    exact ⟨rfl, H.out, grownR_of (Below.refl _ _)⟩
  | cons q r =>
    obtain ⟨b, o, rfl, hb, hc⟩ := h2 (by simp)
    obtain ⟨k0, _, _, _, _⟩ := hc 0 (by simp)
    obtain ⟨j0, _, _, _, _⟩ := hc 1 (by simp)
    simp only [Nat.zero_mul, Nat.one_mul, Nat.add_zero, List.getElem_cons_zero, List.getElem_cons_succ] at k0 j0
    have hl : (p :: q :: r).length = r.length + 2 := rfl
    rw [hl] at h1 h3
    have hll : r.length + 2 ≤ 9223372036854775807 := by unfold maxLen at h4; omega
    have hlb : b < w.heap.size := by omega
    have hl2 : ¬ ((r.length : Int) + 2 < 2) := by omega
    clear h h2 hc
    by_cases hk : p.k = 4
    · by_cases hq : q.k = 2
      · have HS : Hid (aloneP (p :: q :: r) = (p.s, q :: r)) := by show aloneP (p :: q :: r) = (p.s, q :: r); rw [aloneP, if_pos ⟨hk, hq⟩]
        rw [hk] at k0
        rw [hq] at j0
        clear hk hq
        have HQ := hide (next_some N B p (q :: r) w H.out)
        go_enter Tryz.func72, Tryz.ntmps72
        go_wp2_with fail
        refine HQ.out.mono ?_
        rintro e w2 ⟨rfl, r2, g2⟩
        have R2 := hide r2
        have G2 := hide g2
        have hfd := fieldS p
        clear r2 g2
        unfold pcV
        go_wp2
        go_ret
        exact ⟨by rw [HS.out]; rfl, by rw [HS.out]; exact R2.out, G2.out⟩
      · have HS : Hid (aloneP (p :: q :: r) = (⟨#[]⟩, p :: q :: r)) := by show aloneP (p :: q :: r) = (⟨#[]⟩, p :: q :: r); rw [aloneP, if_neg (fun h => hq h.2)]
        rw [hk] at k0
        have hqb : (q.k == 2) = false := by rw [beq_eq_false_iff_ne]; exact hq
        have hqn : (q.k != 2) = true := by simp [hq]
        clear hk hq
        go_enter Tryz.func72, Tryz.ntmps72
        go_wp2
        go_ret
        exact ⟨by rw [HS.out]; rfl, by rw [HS.out]; exact H.out, grownR_of (Below.refl _ _)⟩
    · have HS : Hid (aloneP (p :: q :: r) = (⟨#[]⟩, p :: q :: r)) := by show aloneP (p :: q :: r) = (⟨#[]⟩, p :: q :: r); rw [aloneP, if_neg (fun h => hk h.1)]
      have hkb : (p.k == 4) = false := by rw [beq_eq_false_iff_ne]; exact hk
      have hkn : (p.k != 4) = true := by simp [hk]
      clear hk
      go_enter Tryz.func72, Tryz.ntmps72
      go_wp2
      go_ret
      exact ⟨by rw [HS.out]; rfl, by rw [HS.out]; exact H.out, grownR_of (Below.refl _ _)⟩
end Go.Proofs.YtccehdlgpbeijaaGreatDoor
namespace Go.Proofs.YtccehdlgpbeijaaGreatDoor
open Go.RowKit M

/-- The nodes that a slice holds, each row of them in a block of its own; S holds all these blocks. -/
inductive OwnK (w : World) : Option Addr → List Nd → (Nat → Prop) → Prop
  | nil (a : Option Addr) (S : Nat → Prop) : OwnK w a [] S
  | row (b o : Nat) (ks : List Nd) (aj : Nat → Option Addr) (cj : Nat → Nat) (Sj : Nat → Nat → Prop) (S : Nat → Prop) (hb : S b)
      (hc : ∀ j (hj : j < ks.length), w.cell? ⟨b, o + j * 4, none⟩ = some (.string ks[j].ns) ∧ w.cell? ⟨b, o + j * 4 + 1, none⟩ = some (.string ks[j].nm) ∧ w.cell? ⟨b, o + j * 4 + 2, none⟩ = some (.string ks[j].tx) ∧ w.cell? ⟨b, o + j * 4 + 3, none⟩ = some (.slice (aj j) ks[j].ks.length (cj j)))
      (hf : ∀ i, w.frozen? ⟨b, i, none⟩ = false)
      (hk : ∀ j (hj : j < ks.length), OwnK w (aj j) ks[j].ks (Sj j))
      (hS : ∀ j x, j < ks.length → Sj j x → S x ∧ x ≠ b)
      (hD : ∀ i j x, i < j → j < ks.length → Sj i x → ¬ Sj j x) : OwnK w (some ⟨b, o, none⟩) ks S

theorem OwnK.nds {w : World} {a : Option Addr} {ks : List Nd} {S : Nat → Prop} (h : OwnK w a ks S) : ∀ {B : Nat}, (∀ x, S x → x < B) → Nds w B a ks := by
  induction h with
  | nil a S => exact fun _ => .nil a
  | row b o ks aj cj Sj S hb hc _ _ hS _ ih => exact fun hB => .row b o ks aj cj (hB b hb) hc fun j hj => ih j hj (fun x hx => hB x (hS j x hj hx).1)

theorem OwnK.wide {w : World} {a : Option Addr} {ks : List Nd} {S : Nat → Prop} (h : OwnK w a ks S) : ∀ {T : Nat → Prop}, (∀ x, S x → T x) → OwnK w a ks T := by
  cases h with
  | nil a S => exact fun _ => .nil a _
  | row b o ks aj cj Sj S hb hc hf hk hS hD => exact fun hT => .row b o ks aj cj Sj _ (hT b hb) hc hf hk (fun j x hj hx => ⟨hT x (hS j x hj hx).1, (hS j x hj hx).2⟩) hD

/-- It stays where all its blocks do. -/
theorem OwnK.keep {w w' : World} {a : Option Addr} {ks : List Nd} {S : Nat → Prop} (h : OwnK w a ks S) : (∀ b o, S b → w'.cell? ⟨b, o, none⟩ = w.cell? ⟨b, o, none⟩) → (∀ b o, S b → w'.frozen? ⟨b, o, none⟩ = w.frozen? ⟨b, o, none⟩) → OwnK w' a ks S := by
  induction h with
  | nil a S => exact fun _ _ => .nil a S
  | row b o ks aj cj Sj S hb hc hf _ hS hD ih =>
    intro h1 h2
    exact .row b o ks aj cj Sj S hb (fun j hj => by simp only [h1 b _ hb]; exact hc j hj) (fun i => by rw [h2 b i hb]; exact hf i)
      (fun j hj => ih j hj (fun b' o' hb' => h1 b' o' (hS j b' hj hb').1) (fun b' o' hb' => h2 b' o' (hS j b' hj hb').1)) hS hD

theorem OwnK.stays {w w' : World} {a : Option Addr} {ks : List Nd} {S : Nat → Prop} {C : Nat} (h : OwnK w a ks S) (hb : Below C w w') (hS : ∀ x, S x → x < C) : OwnK w' a ks S :=
  h.keep (fun b o hx => hb.cell (p := ⟨b, o, none⟩) (hS b hx)) (fun b o hx => hb.frozen (p := ⟨b, o, none⟩) (hS b hx))

/-- A store in another block. -/
theorem OwnK.setCell {w : World} {a : Option Addr} {ks : List Nd} {S : Nat → Prop} (h : OwnK w a ks S) (p : Addr) (v : Value) (hp : ¬ S p.block) : OwnK (w.setCell p v) a ks S :=
  h.keep (fun b o hx => World.cell?_setCell_other _ _ _ _ (fun e => hp (by have := congrArg Addr.block e; simp at this; rw [this]; exact hx))) (fun b o hx => by simp)

/-- The blocks from l on, before u. -/
def Ivl (l u : Nat) : Nat → Prop := fun x => l ≤ x ∧ x < u
end Go.Proofs.YtccehdlgpbeijaaGreatDoor
namespace Go.Proofs.YtccehdlgpbeijaaGreatDoor
open Go.RowKit M
set_option linter.unusedVariables false

/-- A node, with where its kids lie. -/
abbrev NdT := Nd × Option Addr × Nat
def ndCells (ts : List NdT) : List Value := ts.flatMap fun t => [.string t.1.ns, .string t.1.nm, .string t.1.tx, .slice t.2.1 t.1.ks.length t.2.2]
theorem ndCells_length (ts : List NdT) : (ndCells ts).length = ts.length * 4 := by
  induction ts with
  | nil => rfl
  | cons h r ih => simp only [ndCells, List.flatMap_cons, List.length_append, List.length_cons, List.length_nil] at *; omega
theorem ndCells_append (ps ts : List NdT) : ndCells (ps ++ ts) = ndCells ps ++ ndCells ts := by simp [ndCells]
theorem ndCells_at (ts : List NdT) : ∀ j (hj : j < ts.length), (ndCells ts)[j * 4]? = some (.string ts[j].1.ns) ∧ (ndCells ts)[j * 4 + 1]? = some (.string ts[j].1.nm) ∧ (ndCells ts)[j * 4 + 2]? = some (.string ts[j].1.tx) ∧ (ndCells ts)[j * 4 + 3]? = some (.slice ts[j].2.1 ts[j].1.ks.length ts[j].2.2) := by
  induction ts with
  | nil => intro j hj; cases hj
  | cons h r ih =>
    intro j hj
    have e : ndCells (h :: r) = .string h.1.ns :: .string h.1.nm :: .string h.1.tx :: .slice h.2.1 h.1.ks.length h.2.2 :: ndCells r := rfl
    rw [e]
    cases j with
    | zero => exact ⟨rfl, rfl, rfl, rfl⟩
    | succ j =>
      have h1 := ih j (by simpa using hj)
      have e1 : (j + 1) * 4 = j * 4 + 1 + 1 + 1 + 1 := by omega
      have e2 : (j + 1) * 4 + 1 = j * 4 + 1 + 1 + 1 + 1 + 1 := by omega
      have e3 : (j + 1) * 4 + 2 = j * 4 + 2 + 1 + 1 + 1 + 1 := by omega
      have e4 : (j + 1) * 4 + 3 = j * 4 + 3 + 1 + 1 + 1 + 1 := by omega
      rw [e2, e3, e4, e1]
      simp only [List.getElem?_cons_succ, List.getElem_cons_succ]
      exact h1

theorem infoNd : (Tryz.prog.info? 26).map (fun i => (i.zero, i.size, i.bytes)) = some (some (.agg #[.string ByteArray.empty, .string ByteArray.empty, .string ByteArray.empty, .slice none 0 0]), 4, 72) := by kernel_rfl

theorem chainN {h : Nat → Nat} {k : Nat} (hm : ∀ j, j < k → h j ≤ h (j + 1)) : ∀ i j, i ≤ j → j ≤ k → h i ≤ h j := by
  intro i j hij
  induction j with
  | zero => intro _; have : i = 0 := by omega
            subst this; exact Nat.le_refl _
  | succ j ih =>
    intro hj
    by_cases e : i = j + 1
    · subst e; exact Nat.le_refl _
    · exact Nat.le_trans (ih (by omega) (by omega)) (hm j (by omega))

/-- A growing row: it is the call's own from B on, and so are the trees of its nodes, each in blocks of its own. -/
structure GrowK (w : World) (B : Nat) (v : Value) (ts : List NdT) (lo : Nat) : Prop where
  own : w.ownsRow B 26 4 v ts.length (ndCells ts)
  blk : ∀ b, v.ownBlock = some b → b < lo
  top : lo ≤ w.heap.size
  kids : ∃ h : Nat → Nat, B ≤ h 0 ∧ (∀ j, j < ts.length → h j ≤ h (j + 1)) ∧ h ts.length ≤ lo ∧
    ∀ j (hj : j < ts.length), OwnK w ts[j].2.1 ts[j].1.ks (fun x => Ivl (h j) (h (j + 1)) x ∧ some x ≠ v.ownBlock)

theorem GrowK.nil (w : World) (B : Nat) (hB : B ≤ w.heap.size) : GrowK w B (.slice none 0 0) [] w.heap.size :=
  ⟨World.ownsRow_nil w B 26 4, (fun b h => by cases h), Nat.le_refl _, fun _ => w.heap.size, hB, fun _ _ => Nat.le_refl _, Nat.le_refl _, fun j hj => absurd hj (Nat.not_lt_zero _)⟩
theorem GrowK.made (w : World) (B : Nat) (hB : B ≤ w.heap.size) : GrowK (w.alloc (Obj.cells #[] 26)) B (.slice (some ⟨w.heap.size, 0, none⟩) 0 0) [] (w.heap.size + 1) :=
  ⟨⟨rfl, .inr ⟨w.heap.size, 0, #[], rfl, hB, heap_alloc_new w _, Nat.le_refl _, Nat.zero_le _, rfl, rfl⟩⟩, (fun b h => by cases h; exact Nat.lt_succ_self _), by simp, fun _ => w.heap.size, hB, fun _ _ => Nat.le_refl _, Nat.le_succ _, fun j hj => absurd hj (Nat.not_lt_zero _)⟩
theorem GrowK.next {w w' : World} {B lo : Nat} {v : Value} {ts : List NdT} (g : GrowK w B v ts lo) (hb : Below w.heap.size w w') : GrowK w' B v ts lo := by
  obtain ⟨h, h0, hm, hk, hj⟩ := g.kids
  have ht := g.top
  refine ⟨⟨g.own.1, ?_⟩, g.blk, Nat.le_trans ht hb.size, h, h0, hm, hk, fun j hjl => (hj j hjl).stays hb (fun x hx => ?_)⟩
  · rcases g.own.2 with h | ⟨g, cap, cur, e, hB, hh, hr⟩
    · exact .inl h
    · exact .inr ⟨g, cap, cur, e, hB, (hb.block g (Array.getElem?_eq_some_iff.1 hh).1).trans hh, hr⟩
  · have := chainN hm (j + 1) ts.length (by omega) (Nat.le_refl _)
    have := hx.1.2
    omega
theorem GrowK.up {w : World} {B lo lo' : Nat} {v : Value} {ts : List NdT} (g : GrowK w B v ts lo) (h1 : lo ≤ lo') (h2 : lo' ≤ w.heap.size) : GrowK w B v ts lo' := by
  obtain ⟨h, h0, hm, hk, hj⟩ := g.kids
  exact ⟨g.own, fun b hb => Nat.lt_of_lt_of_le (g.blk b hb) h1, h2, h, h0, hm, Nat.le_trans hk h1, hj⟩
theorem GrowK.slice {w : World} {B lo : Nat} {v : Value} {ts : List NdT} (h : GrowK w B v ts lo) : ∃ a cap, v = .slice a ts.length cap := by
  rcases h.own.2 with ⟨e, h0⟩ | ⟨g, cap, cur, e, _⟩
  · rw [h0]; exact ⟨_, _, e⟩
  · exact ⟨_, _, e⟩
/-- A store in a block that is not the call's own, and in none of its rows. -/
theorem GrowK.store {w : World} {B lo : Nat} {v : Value} {ts : List NdT} (g : GrowK w B v ts lo) (p : Addr) (u : Value) (hp : p.block < B) : GrowK (w.setCell p u) B v ts lo := by
  obtain ⟨h, h0, hm, hk, hj⟩ := g.kids
  have hb : ∀ i, i ≠ p.block → (w.setCell p u).heap[i]? = w.heap[i]? := fun i hi => Below.heap_setCell w p u i hi
  refine ⟨⟨g.own.1, ?_⟩, g.blk, by simpa using g.top, h, h0, hm, hk, fun j hjl => (hj j hjl).setCell p u (fun hx => ?_)⟩
  · rcases g.own.2 with h | ⟨g, cap, cur, e, hB, hh, hr⟩
    · exact .inl h
    · exact .inr ⟨g, cap, cur, e, hB, (hb g (by omega)).trans hh, hr⟩
  · have := chainN hm 0 j (by omega) (by omega)
    have := hx.1.1
    omega

theorem ownsRow_frozen {w : World} {g : Nat} {cur : Array Value} {e : TypeId} (hh : w.heap[g]? = some (.cells cur e (0, 0))) (i : Nat) : w.frozen? ⟨g, i, none⟩ = false := by
  simp only [World.frozen?, hh, Bool.and_eq_false_iff, decide_eq_false_iff_not]
  right
  omega

/-- What was made is a tree of blocks of its own. -/
theorem GrowK.done {w : World} {B lo : Nat} {v : Value} {ts : List NdT} (g : GrowK w B v ts lo) : ∃ a cap, v = .slice a ts.length cap ∧ OwnK w a (ts.map (·.1)) (Ivl B w.heap.size) := by
  obtain ⟨h, h0, hm, hk, hj⟩ := g.kids
  have ht := g.top
  have hown := g.own
  rcases g.own.2 with ⟨e, hl⟩ | ⟨b, cap, cur, rfl, hB, hh, h1, h2, h3, h4⟩
  · have : ts = [] := List.length_eq_zero_iff.1 hl
    subst this
    exact ⟨none, 0, e, .nil _ _⟩
  · refine ⟨_, _, rfl, .row b 0 _ (fun j => if hj : j < ts.length then (ts[j]).2.1 else none) (fun j => if hj : j < ts.length then (ts[j]).2.2 else 0) (fun j x => Ivl (h j) (h (j + 1)) x ∧ x ≠ b) _ ⟨hB, (Array.getElem?_eq_some_iff.1 hh).1⟩ (fun j hjl => ?_) (fun i => ownsRow_frozen hh i) (fun j hjl => ?_) (fun j x hjl hx => ?_) (fun i j x hij hjl hx hy => ?_)⟩
    · have hj' : j < ts.length := by simpa using hjl
      have hx := ndCells_at ts j hj'
      have hl := ndCells_length ts
      simp only [Nat.zero_add, List.getElem_map, hj', dif_pos]
      refine ⟨?_, ?_, ?_, ?_⟩
      · rw [hown.cellAt (j * 4) (by omega)]; exact hx.1
      · rw [hown.cellAt (j * 4 + 1) (by omega)]; exact hx.2.1
      · rw [hown.cellAt (j * 4 + 2) (by omega)]; exact hx.2.2.1
      · rw [hown.cellAt (j * 4 + 3) (by omega)]; exact hx.2.2.2
    · have hj' : j < ts.length := by simpa using hjl
      simp only [List.getElem_map, hj', dif_pos]
      exact (hj j hj').wide (fun x hx => ⟨hx.1, fun e => hx.2 (by rw [e]; rfl)⟩)
    · have hj' : j < ts.length := by simpa using hjl
      have e1 := chainN hm 0 j (Nat.zero_le _) (by omega)
      have e2 := chainN hm (j + 1) ts.length (by omega) (Nat.le_refl _)
      have := hx.1
      unfold Ivl at this ⊢
      exact ⟨by omega, hx.2⟩
    · have hj' : j < ts.length := by simpa using hjl
      have e1 := chainN hm (i + 1) j (by omega) (by omega)
      have a1 := hx.1
      have a2 := hy.1
      unfold Ivl at a1 a2
      omega

/-- 'l = append(l, n)'. -/
theorem wp_append_node {w : World} {ops : Array Oper} {rest : List Oper} {o : Oper} {a : Act} {Q : Exit → Act → World → Prop} (hgd : o.guard = none) (s x : Operand)
    (ho : o.op = .call { callee := .builtin .append, args := #[s, x], argTypes := #[24, 24] })
    (B lo : Nat) (v : Value) (ts : List NdT) (hs : a.eval s = v) (hown : GrowK w B v ts lo)
    (N : Nat) (n : Nd) (an : Option Addr) (cn : Nat) (hx : a.eval x = .slice (some ⟨N, 0, none⟩) 1 1) (hc0 : w.cell? ⟨N, 0, none⟩ = some (.string n.ns)) (hc1 : w.cell? ⟨N, 1, none⟩ = some (.string n.nm)) (hc2 : w.cell? ⟨N, 2, none⟩ = some (.string n.tx)) (hc3 : w.cell? ⟨N, 3, none⟩ = some (.slice an n.ks.length cn))
    (hlen : ts.length + 1 ≤ 1000000000) (hBl : B ≤ lo) (hkid : OwnK w an n.ks (Ivl lo w.heap.size))
    (h : ∀ g cap w', GrowK w' B (.slice (some ⟨g, 0, none⟩) (ts.length + 1) cap) (ts ++ [(n, an, cn)]) w'.heap.size → Below B w w' → wpList Tryz.prog ops Q rest (a.put o.dst (.slice (some ⟨g, 0, none⟩) (ts.length + 1) cap)) w') : wpList Tryz.prog ops Q (o :: rest) a w := by
  obtain ⟨i0, hi, hz0, hz1, hz2⟩ := info_parts infoNd
  have hlt := World.ownsRow.lt hown.own
  obtain ⟨hf, h0, hm, hk, hj⟩ := hown.kids
  have l1 := hown.blk
  have l2 := hown.top
  refine wpList_append_own_at w hgd s x 24 ho B 26 i0 _ 4 72 Tryz.underlying24 hi hz0 hz1 hz2 rfl (by decide) v ts.length _ hs hown.own ⟨N, 0, none⟩ 1 1 [.string n.ns, .string n.nm, .string n.tx, .slice an n.ks.length cn] hx rfl ?_ ?_ ?_ ?_ (by omega) ?_
  · intro j u hj
    have e : ∀ k, (⟨N, 0, none⟩ : Addr).add k = ⟨N, k, none⟩ := fun k => by unfold Addr.add; split <;> simp_all
    rw [e]
    match j, hj with
    | 0, hj => simp at hj; subst hj; exact hc0
    | 1, hj => simp at hj; subst hj; exact hc1
    | 2, hj => simp at hj; subst hj; exact hc2
    | 3, hj => simp at hj; subst hj; exact hc3
  · intro u hu
    simp only [List.mem_cons, List.not_mem_nil, or_false] at hu
    rcases hu with rfl | rfl | rfl | rfl <;> rfl
  · unfold maxLen; omega
  · omega
  · intro v' w' ho' hg _ hat
    obtain ⟨g, cap, rfl⟩ : ∃ g cap, v' = .slice (some ⟨g, 0, none⟩) (ts.length + 1) cap := by
      rcases ho'.2 with ⟨_, h0⟩ | ⟨g, cap, cur, hv, _⟩
      · omega
      · exact ⟨g, cap, hv⟩
    have hat' : some g = v.ownBlock ∨ some g = some w.heap.size := hat
    have hkeep : ∀ (S : Nat → Prop) (a' : Option Addr) (ks' : List Nd), OwnK w a' ks' S → (∀ x, S x → x < w.heap.size ∧ some x ≠ v.ownBlock) → OwnK w' a' ks' S := fun S a' ks' ho hS =>
      ho.keep (fun b o hb => by
        have := hg.block b (hS b hb).1 (hS b hb).2
        simp only [World.cell?, this]) (fun b o hb => by
        have := hg.block b (hS b hb).1 (hS b hb).2
        simp only [World.frozen?, this])
    refine h g cap w' ⟨?_, fun b hb => ?_, Nat.le_refl _, fun i => if i = ts.length + 1 then w'.heap.size else hf i, ?_, ?_, ?_, ?_⟩ ⟨hg.os, hg.tape, hg.output, hg.size, fun k hk => hg.block k (by omega) (fun e => by have := (hlt k e.symm).1; omega)⟩
    · rw [ndCells_append, List.length_append]
      exact ho'
    · have hgb : g = b := Option.some.inj hb
      have hz := hg.size
      rcases hat' with e | e
      · have := (hlt g e.symm).2; omega
      · rcases ho'.2 with ⟨hv, _⟩ | ⟨g', cap', cur', hv, _, hh, _⟩
        · cases hv
        · cases hv
          have := (Array.getElem?_eq_some_iff.1 hh).1
          omega
    · simpa using h0
    · intro j hj'
      rw [List.length_append] at hj'
      simp only [List.length_cons, List.length_nil] at hj'
      by_cases e : j = ts.length
      · subst e
        simp only [show ¬ ts.length = ts.length + 1 by omega, if_false, if_true]
        have := hg.size
        omega
      · simp only [show ¬ j = ts.length + 1 by omega, show ¬ j + 1 = ts.length + 1 by omega, if_false]
        exact hm j (by omega)
    · simp
    · intro j hj'
      have hj2 : j < ts.length + 1 := by simpa using hj'
      by_cases e : j = ts.length
      · subst e
        simp only [List.getElem_append_right (Nat.le_refl _), Nat.sub_self, List.getElem_cons_zero, show ¬ ts.length = ts.length + 1 by omega, if_false, if_true]
        refine OwnK.wide (hkeep _ _ _ hkid (fun x hx => ⟨hx.2, fun e => ?_⟩)) (fun x hx => ⟨?_, fun e => ?_⟩)
        · have := l1 x e.symm
          have := hx.1
          omega
        · have := hg.size
          unfold Ivl at hx ⊢
          omega
        · rcases hat' with e2 | e2
          · have := l1 x (by rw [← e2]; exact e.symm)
            have := hx.1
            omega
          · have h9 : x = w.heap.size := Option.some.inj (show some x = some w.heap.size from e.trans e2)
            have := hx.2
            omega
      · have hjt : j < ts.length := by omega
        have e2 := chainN hm (j + 1) ts.length (by omega) (Nat.le_refl _)
        simp only [List.getElem_append_left hjt, show ¬ j = ts.length + 1 by omega, show ¬ j + 1 = ts.length + 1 by omega, if_false]
        refine OwnK.wide (hkeep _ _ _ (hj j hjt) (fun x hx => ⟨?_, hx.2⟩)) (fun x hx => ⟨hx.1, fun e => ?_⟩)
        · have := hx.1.2
          omega
        · rcases hat' with e3 | e3
          · exact hx.2 (e.trans e3)
          · have h9 : x = w.heap.size := Option.some.inj (show some x = some w.heap.size from e.trans e3)
            have := hx.1.2
            omega
end Go.Proofs.YtccehdlgpbeijaaGreatDoor
namespace Go.Proofs.YtccehdlgpbeijaaGreatDoor
open Go.RowKit M
set_option linter.unusedVariables false

/-- A node in a box. -/
structure BoxN (w : World) (b : Nat) (a : Option Addr) (cap : Nat) (n : Nd) : Prop where
  lt : b < w.heap.size
  c0 : w.cell? ⟨b, 0, none⟩ = some (.string n.ns)
  c1 : w.cell? ⟨b, 1, none⟩ = some (.string n.nm)
  c2 : w.cell? ⟨b, 2, none⟩ = some (.string n.tx)
  c3 : w.cell? ⟨b, 3, none⟩ = some (.slice a n.ks.length cap)
theorem BoxN.made (w : World) (a : Option Addr) (cap : Nat) (n : Nd) (T : TypeId) : BoxN (w.alloc (Obj.cells #[.string n.ns, .string n.nm, .string n.tx, .slice a n.ks.length cap] T)) w.heap.size a cap n :=
  ⟨by simp, by simp, by simp, by simp, by simp⟩
theorem BoxN.next {w w' : World} {b : Nat} {a : Option Addr} {cap : Nat} {n : Nd} (h : BoxN w b a cap n) (hb : Below w.heap.size w w') : BoxN w' b a cap n :=
  ⟨Nat.lt_of_lt_of_le h.lt hb.size, by rw [(bcellN hb).1 b 0 h.lt]; exact h.c0, by rw [(bcellN hb).1 b 1 h.lt]; exact h.c1, by rw [(bcellN hb).1 b 2 h.lt]; exact h.c2, by rw [(bcellN hb).1 b 3 h.lt]; exact h.c3⟩
theorem BoxN.keep {w w' : World} {b C : Nat} {a : Option Addr} {cap : Nat} {n : Nd} (h : BoxN w b a cap n) (hb : Below C w w') (hC : b < C) : BoxN w' b a cap n :=
  ⟨Nat.lt_of_lt_of_le h.lt hb.size, by rw [hb.cell (p := ⟨b, 0, none⟩) hC]; exact h.c0, by rw [hb.cell (p := ⟨b, 1, none⟩) hC]; exact h.c1, by rw [hb.cell (p := ⟨b, 2, none⟩) hC]; exact h.c2, by rw [hb.cell (p := ⟨b, 3, none⟩) hC]; exact h.c3⟩
theorem BoxN.drew {w : World} {b : Nat} {a : Option Addr} {cap : Nat} {n : Nd} (h : BoxN w b a cap n) : BoxN w.drew b a cap n := ⟨h.lt, h.c0, h.c1, h.c2, h.c3⟩
theorem BoxN.alloc {w : World} {b : Nat} {a : Option Addr} {cap : Nat} {n : Nd} (h : BoxN w b a cap n) (x : Obj) : BoxN (w.alloc x) b a cap n :=
  h.next ((Below.refl w.heap.size w).alloc (Nat.le_refl _) x)

theorem keepB {W : World} {b c : Nat} {a a' : Option Addr} {cap cap' : Nat} {n m : Nd} (h : BoxN W b a cap n) (h' : BoxN W c a' cap' m) :
    W.cell? ⟨b, 0, none⟩ = some (.string n.ns) ∧ W.cell? ⟨b, 1, none⟩ = some (.string n.nm) ∧ W.cell? ⟨b, 2, none⟩ = some (.string n.tx) ∧ W.cell? ⟨b, 3, none⟩ = some (.slice a n.ks.length cap) ∧
    W.cell? ⟨c, 0, none⟩ = some (.string m.ns) ∧ W.cell? ⟨c, 1, none⟩ = some (.string m.nm) ∧ W.cell? ⟨c, 2, none⟩ = some (.string m.tx) ∧ W.cell? ⟨c, 3, none⟩ = some (.slice a' m.ks.length cap') :=
  ⟨h.c0, h.c1, h.c2, h.c3, h'.c0, h'.c1, h'.c2, h'.c3⟩

end Go.Proofs.YtccehdlgpbeijaaGreatDoor
namespace Go.Proofs.YtccehdlgpbeijaaGreatDoor
open Go.RowKit M
set_option linter.unusedVariables false

theorem BoxN.of {w w' : World} {b : Nat} {a : Option Addr} {cap : Nat} {n : Nd} (h : BoxN w b a cap n) (hs : w.heap.size ≤ w'.heap.size) (hb : w'.heap[b]? = w.heap[b]?) : BoxN w' b a cap n :=
  ⟨Nat.lt_of_lt_of_le h.lt hs, (World.cell?_of_block (a := ⟨b, 0, none⟩) hb).trans h.c0, (World.cell?_of_block (a := ⟨b, 1, none⟩) hb).trans h.c1, (World.cell?_of_block (a := ⟨b, 2, none⟩) hb).trans h.c2, (World.cell?_of_block (a := ⟨b, 3, none⟩) hb).trans h.c3⟩
theorem OwnK.grown {w w' : World} {a : Option Addr} {ks : List Nd} {S : Nat → Prop} {N : Nat} (h : OwnK w a ks S) (hg : w.grownBy w' (some N)) (hl : ∀ x, S x → x < w.heap.size ∧ x ≠ N) : OwnK w' a ks S :=
  h.keep (fun b o hb => World.cell?_of_block (a := ⟨b, o, none⟩) (hg.block b (hl b hb).1 (by simp; exact (hl b hb).2))) (fun b o hb => by have := hg.block b (hl b hb).1 (by simp; exact (hl b hb).2); simp only [World.frozen?, this])
theorem GrowK.grown {w w' : World} {B lo N : Nat} {v : Value} {ts : List NdT} (g : GrowK w B v ts lo) (hg : w.grownBy w' (some N)) (hN : N < B) : GrowK w' B v ts lo := by
  obtain ⟨h, h0, hm, hk, hj⟩ := g.kids
  have ht := g.top
  refine ⟨⟨g.own.1, ?_⟩, g.blk, Nat.le_trans ht hg.size, h, h0, hm, hk, fun j hjl => (hj j hjl).grown hg (fun x hx => ?_)⟩
  · rcases g.own.2 with h | ⟨g, cap, cur, e, hB, hh, hr⟩
    · exact .inl h
    · exact .inr ⟨g, cap, cur, e, hB, (hg.block g (Array.getElem?_eq_some_iff.1 hh).1 (by simp; omega)).trans hh, hr⟩
  · have e1 := chainN hm (j + 1) ts.length (by omega) (Nat.le_refl _)
    have e2 := chainN hm 0 j (by omega) (by omega)
    have := hx.1
    unfold Ivl at this
    omega

theorem Rd.nextB {w w' : World} {N B L : Nat} {ps : List Pce} (h : Rd w N B ps) (hb : Below L w w') (hN : N < L) : Rd w' N B ps := by
  obtain ⟨a, c, h1, h2, h3, h4⟩ := h.row
  have := h.hB
  exact ⟨Nat.lt_of_lt_of_le h.lt hb.size, h.hB, (hb.frozen (p := ⟨N, 0, none⟩) hN).trans h.fz, a, c, (hb.cell (p := ⟨N, 0, none⟩) hN).trans h1, h2.below hb (by omega), h3, h4⟩
/-- What a node is handed back as. -/
def NdRet (w w' : World) (N B : Nat) (x : Option (Nd × List Pce)) (e : Ending) : Prop :=
  match x with
  | none => e = gaveUp
  | some (n, r) => (∃ (a : Option Addr) (c : Nat), e = .returned (.agg #[.string n.ns, .string n.nm, .string n.tx, .slice a n.ks.length c]) ∧ OwnK w' a n.ks (Ivl w.heap.size w'.heap.size)) ∧ Rd w' N B r
def KdRet (w w' : World) (N B : Nat) (x : Option (List Nd × List Pce)) (e : Ending) : Prop :=
  match x with
  | none => e = gaveUp
  | some (ks, r) => (∃ (a : Option Addr) (c : Nat), e = .returned (.slice a ks.length c) ∧ OwnK w' a ks (Ivl w.heap.size w'.heap.size)) ∧ Rd w' N B r
def NdR (f : Nat) : Prop := ∀ (ps : List Pce) (o : ByteArray) (N B : Nat) (w : World), 2 * ps.length + 1 ≤ f → Rd w N B ps → (∀ p ∈ ps, p.s.size ≤ 1048576) → ps.length ≤ 1000 →
    Calls Tryz.prog 51 #[.pointer (some ⟨N, 0, none⟩), .string o] w fun e w' => NdRet w w' N B (rdN f ps o) e ∧ w.grownBy w' (some N)
def KdR (f : Nat) : Prop := ∀ (ps : List Pce) (o : ByteArray) (N B : Nat) (w : World), 2 * ps.length + 2 ≤ f → Rd w N B ps → (∀ p ∈ ps, p.s.size ≤ 1048576) → ps.length ≤ 1000 →
    Calls Tryz.prog 73 #[.pointer (some ⟨N, 0, none⟩), .string o] w fun e w' => KdRet w w' N B (rdK f (skipP ps) o) e ∧ w.grownBy w' (some N)

set_option maxRecDepth 100000 in
set_option maxHeartbeats 4000000 in
theorem kids_step (f : Nat) (ih : ∀ g, g < f → NdR g) : KdR f := by
  intro ps o N B w hf h hz hps
  have hlt := h.lt
  have HI : Hid (∀ g, g < f → NdR g) := ih
  clear ih
  have ba := (Below.refl w.heap.size w).alloc (Nat.le_refl _) (Obj.cells #[] 26)
  have HQ0 := hide (blanks_any N B ps _ (h.next ba) hz)
  have G0 := hide (grownR_of (N := N) ba)
  have K0 := hide (GrowK.made w w.heap.size (Nat.le_refl _))
  have hml := skipP_len ps
  have hz' : Hid (∀ p ∈ skipP ps, p.s.size ≤ 1048576) := fun p hp => hz p (skipP_mem ps p hp)
  clear h ba hz
  obtain ⟨qs, hqs⟩ : ∃ qs, skipP ps = qs := ⟨_, rfl⟩
  rw [hqs] at HQ0 hml hz' ⊢
  clear hqs
  go_enter Tryz.func73, Tryz.ntmps73
  go_wp2_with fail
  refine HQ0.out.mono ?_
  rintro e w1 ⟨rfl, r1, g1⟩
  have R1 := hide r1
  have G1 := hide (grownR_trans G0.out g1)
  have K1 := hide ((K0.out.grown g1 hlt).up (lo' := w1.heap.size) (by have := g1.size; simpa using this) (Nat.le_refl _))
  clear r1 g1 HQ0 K0 G0
  go_wp2
  go_loopw [5] (fun lv wr => ∃ (g : Nat) (acc : List Nd) (ts : List NdT) (rs : List Pce), g ≤ f ∧ 2 * rs.length + 2 ≤ g ∧ rs.length ≤ 1000 ∧ (∀ p ∈ rs, p.s.size ≤ 1048576) ∧ ts.map (·.1) = acc ∧ ts.length + rs.length ≤ 1000 ∧ combK acc (rdK g rs o) = rdK f qs o ∧ Rd wr N B rs ∧ GrowK wr w.heap.size lv ts wr.heap.size ∧ w.grownBy wr (some N)) (fun _ wr => match wr.cell? ⟨N, 0, none⟩ with | some (.slice _ n _) => n | _ => 0)
  case atStart => exact ⟨f, [], [], qs, Nat.le_refl _, by omega, by omega, hz'.out, rfl, by simp; omega, combK_nil _, R1.out, K1.out, G1.out⟩
  case round =>
    obtain ⟨g, acc, ts, rs, hgf, hg2, hr3, hzr, hta, htl, hR, hrd, hgk, hgr⟩ := hrel
    have HR := hide hR
    have HRD := hide hrd
    have HGK := hide hgk
    have HGR := hide hgr
    have HZR := hide hzr
    have HTA := hide hta
    have hwz := hgr.size
    have HMEA : Hid (∃ c a, wr.cell? ⟨N, 0, none⟩ = some (.slice a rs.length c)) := by obtain ⟨a, c, k, _⟩ := hrd.row; exact ⟨c, a, k⟩
    clear hR hrd hgk hgr hzr hta
    obtain ⟨av, cv, rfl⟩ := HGK.out.slice
    cases rs with
    | nil =>
      have HQ := hide (peek_none N B wr HRD.out)
      have HN : Hid (rdK f qs o = none) := by
        rw [← HR.out]
        obtain ⟨g', rfl⟩ : ∃ g', g = g' + 1 := ⟨g - 1, by omega⟩
        show combK acc (rdK (g' + 1) [] o) = none
        rw [rdK]; rfl
      go_wp2_with fail
      refine HQ.out.mono ?_
      rintro e w2 ⟨rfl, b2⟩
      have G2 := hide (grownR_below HGR.out (b2.mono hwz))
      clear b2
      have HF : Hid (KdRet w w2 N B (rdK f qs o) gaveUp) := by rw [HN.out]; exact rfl
      exact ⟨rfl, HF.out, G2.out⟩
    | cons p r =>
      have hfd := fieldK p
      have HQ := hide (peek_some N B p r wr HRD.out)
      by_cases hk : p.k = 2
      · have HN : Hid (rdK f qs o = some (acc, p :: r)) := by
          rw [← HR.out]
          obtain ⟨g', rfl⟩ : ∃ g', g = g' + 1 := ⟨g - 1, by omega⟩
          show combK acc (rdK (g' + 1) (p :: r) o) = some (acc, p :: r)
          rw [rdK, if_pos hk]
          simp [combK]
        have HK2 := hide hk
        go_wp2_with fail
        refine HQ.out.mono ?_
        rintro e w2 ⟨rfl, b2⟩
        unfold pcV
        rw [hk] at hfd
        rw [hk]
        have G2 := hide (grownR_below HGR.out (b2.mono hwz))
        obtain ⟨a2, c2, e2, o2⟩ := (HGK.out.next b2).done
        have R2 := hide (HRD.out.next b2)
        have HF : Hid (KdRet w w2 N B (rdK f qs o) (.returned (.slice av ts.length cv))) := by
          rw [HN.out]
          injection e2 with i1 i2 i3
          refine ⟨⟨av, cv, ?_, ?_⟩, R2.out⟩
          · rw [← HTA.out, List.length_map]
          · rw [← HTA.out, i1]; exact o2.wide (fun x hx => by unfold Ivl at hx ⊢; have := b2.size; omega)
        clear b2 e2 o2 hk HTA
        go_wp2
        go_ret
        exact ⟨HF.out, G2.out⟩
      · obtain ⟨g', hg'⟩ : ∃ g', g = g' + 1 := ⟨g - 1, by omega⟩
        subst hg'
        have HST := hide (combK_step acc g' p r o hk)
        rw [HR.out] at HST
        have hkb : (p.k == 2) = false := by rw [beq_eq_false_iff_ne]; exact hk
        have hkn : (p.k != 2) = true := by simp [hk]
        have hkd : ¬ p.k = 2 := hk
        go_wp2_with fail
        refine HQ.out.mono ?_
        rintro e w2 ⟨rfl, b2⟩
        unfold pcV
        have R2 := hide (HRD.out.next b2)
        have G2 := hide (grownR_below HGR.out (b2.mono hwz))
        have K2 := hide (HGK.out.next b2)
        have z2 := b2.size
        have HND := hide (HI.out g' (by omega) (p :: r) o N B w2 (by omega) R2.out HZR.out hr3)
        have HLF := hide (fun n r1 (e : rdN g' (p :: r) o = some (n, r1)) => (rd_left g').1 _ _ _ _ e)
        clear b2
        obtain ⟨x, hx⟩ : ∃ x, rdN g' (p :: r) o = x := ⟨_, rfl⟩
        rw [hx] at HST HND
        have HX := hide hx
        clear hx
        cases x with
        | none =>
          go_wp2_with fail
          refine HND.out.mono ?_
          rintro e w3 ⟨hn, g3⟩
          have e3 : e = gaveUp := hn
          subst e3
          have G3 := hide (grownR_trans G2.out g3)
          have HF : Hid (KdRet w w3 N B (rdK f qs o) gaveUp) := by rw [HST.out]; exact rfl
          clear g3 hn
          exact ⟨rfl, HF.out, G3.out⟩
        | some y =>
          obtain ⟨n, r1⟩ := y
          obtain ⟨hl1, hl2⟩ := HLF.out n r1 HX.out
          go_wp2_with fail
          refine HND.out.mono ?_
          rintro e w3 ⟨⟨⟨a', c', rfl, o3⟩, r3⟩, g3⟩
          have hlr : (p :: r).length = r.length + 1 := rfl
          rw [hlr] at hl2 hg2 hr3 htl
          have ba := (Below.refl w3.heap.size w3).alloc (Nat.le_refl _) (Obj.cells #[.string n.ns, .string n.nm, .string n.tx, .slice a' n.ks.length c'] 26)
          have z3 := g3.size
          have HG3 := hide (((K2.out.grown g3 hlt).next ba))
          have HO3 := hide (OwnK.wide (o3.stays ba (fun x hx => hx.2)) (T := Ivl wr.heap.size (w3.alloc (Obj.cells #[.string n.ns, .string n.nm, .string n.tx, .slice a' n.ks.length c'] 26)).heap.size) (fun x hx => by unfold Ivl at hx ⊢; simp at hx ⊢; omega))
          have G3 := hide (grownR_below (grownR_trans G2.out g3) (ba.mono (by omega)))
          have R3 := hide (r3.next ba)
          have HZ1 : Hid (∀ q ∈ r1, q.s.size ≤ 1048576) := fun q hq => HZR.out q (hl1 q hq)
          clear o3 r3 g3 ba hl1 K2 G2 R2 HND HQ
          go_wp2_with (at_builtin; refine wp_append_node rfl _ _ rfl w.heap.size wr.heap.size _ ts rfl HG3.out _ n a' c' rfl ?c0 ?c1 ?c2 ?c3 ?c4 ?c5 ?c6 ?_)
          case c0 => simp
          case c1 => simp
          case c2 => simp
          case c3 => simp
          case c4 => omega
          case c5 => exact hwz
          case c6 => exact HO3.out
          intro g4 cap4 w4 o4 b4
          have O4 := hide o4
          have G4 := hide (grownR_below G3.out b4)
          have HQ4 := hide (blanks_any N B r1 w4 (R3.out.nextB b4 hlt) HZ1.out)
          clear o4 b4 HG3 HO3 G3 R3
          go_wp2_with fail
          refine HQ4.out.mono ?_
          rintro e w5 ⟨rfl, r5, g5⟩
          have R5 := hide r5
          have G5 := hide (grownR_trans G4.out g5)
          have O5 := hide ((O4.out.grown g5 hlt).up (lo' := w5.heap.size) g5.size (Nat.le_refl _))
          have HZ5 : Hid (∀ q ∈ skipP r1, q.s.size ≤ 1048576) := fun q hq => HZ1.out q (skipP_mem _ _ hq)
          have hsl := skipP_len r1
          clear r5 g5 HQ4 O4 G4
          go_wp2
          go_roundw
          case rel => exact ⟨g', acc ++ [n], ts ++ [(n, a', c')], skipP r1, by omega, by omega, by omega, HZ5.out, by rw [List.map_append, HTA.out]; rfl, by simp; omega, HST.out.symm, R5.out, by simpa using O5.out, G5.out⟩
          case measure =>
            obtain ⟨c, a, k⟩ := HMEA.out
            obtain ⟨a5, c5, k5, _⟩ := R5.out.row
            rw [k, k5]
            simp only [hlr]
            omega
end Go.Proofs.YtccehdlgpbeijaaGreatDoor
