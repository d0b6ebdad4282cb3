/-
  Slices of heads: what they hold, and that it stays.
-/
import Derived.Test.YtckhjemojopekaaSliceEq
import Derived.Test.YtckhjemojopekaaRows
import Derived.Test.YtckhjemojopekaaMathReq
import Derived.WalkKit
import Derived.WalkSpells
import Derived.WalkLawsBesides
import Derived.Deep.Light
import Derived.Deep.QuietTactic
import Derived.Deep.OwnRows
namespace Go.Proofs.Ytckhjemojopekaa
open Go.RowKit M


/-- The heads that a slice holds, in a block below B. -/
def Hds (w : World) (B : Nat) (a : Option Addr) (hs : List Hd) : Prop :=
  0 < hs.length → ∃ b o, a = some ⟨b, o, none⟩ ∧ b < B ∧ ∀ j (hj : j < hs.length), w.cell? ⟨b, o + j * 2, none⟩ = some (.string hs[j].1) ∧ w.cell? ⟨b, o + j * 2 + 1, none⟩ = some (.string hs[j].2)

theorem Hds.below {w w' : World} {B C : Nat} {a : Option Addr} {hs : List Hd} (h : Hds w B a hs) (hb : Below C w w') (hB : B ≤ C) : Hds w' B a hs := fun h0 => by
  obtain ⟨b, o, e, hbB, hc⟩ := h h0
  exact ⟨b, o, e, hbB, fun j hj => ⟨(hb.cell (p := ⟨b, o + j * 2, none⟩) (Nat.lt_of_lt_of_le hbB hB)).trans (hc j hj).1, (hb.cell (p := ⟨b, o + j * 2 + 1, none⟩) (Nat.lt_of_lt_of_le hbB hB)).trans (hc j hj).2⟩⟩
theorem Hds.mono {w : World} {B C : Nat} {a : Option Addr} {hs : List Hd} (h : Hds w B a hs) (hB : B ≤ C) : Hds w C a hs := fun h0 => by
  obtain ⟨b, o, e, hbB, hc⟩ := h h0
  exact ⟨b, o, e, Nat.lt_of_lt_of_le hbB hB, hc⟩

theorem Hds.store {w : World} {B g o : Nat} {hs : List Hd} (h : Hds w B (some ⟨g, o, none⟩) hs) (p : Addr) (v : Value) (hp : p.block ≠ g) : Hds (w.setCell p v) B (some ⟨g, o, none⟩) hs := fun h0 => by
  obtain ⟨b, o', e, hbB, hc⟩ := h h0
  cases e
  exact ⟨g, o, rfl, hbB, fun j hj => ⟨(World.cell?_setCell_other _ _ _ _ (fun e => hp (congrArg Addr.block e))).trans (hc j hj).1, (World.cell?_setCell_other _ _ _ _ (fun e => hp (congrArg Addr.block e))).trans (hc j hj).2⟩⟩

/-- All of them short enough. -/
def ShortH (hs : List Hd) : Prop := ∀ h ∈ hs, h.1.size ≤ maxLen ∧ h.2.size ≤ maxLen
theorem ShortH.at {hs : List Hd} (h : ShortH hs) (k : Nat) (hk : k < hs.length) : (hs[k]).1.size ≤ maxLen ∧ (hs[k]).2.size ≤ maxLen := h _ (List.getElem_mem hk)

/-- A request all of whose parts are short enough. -/
def ShortR (r : Rq) : Prop := r.m.size ≤ maxLen ∧ r.p.size ≤ maxLen ∧ r.b.size ≤ maxLen ∧ r.hs.length ≤ maxLen ∧ ShortH r.hs

/-- The value of a head, and of a request. -/
def hdV (h : Hd) : Value := .agg #[.string h.1, .string h.2]
def rqV (a : Option Addr) (n cap : Nat) (r : Rq) : Value := .agg #[.string r.m, .string r.p, .slice a n cap, .string r.b]

theorem strInj {a b : ByteArray} (h : a.toList = b.toList) : a = b := by
  rw [ByteArray.toList_eq, ByteArray.toList_eq] at h
  exact ByteArray.ext (Array.ext' h)

/-- What was there reads as it did, behind a call that only made memory. -/
theorem bcell {W w1 : World} (hb : Below W.heap.size W w1) : (∀ b o, b < W.heap.size → w1.cell? ⟨b, o, none⟩ = W.cell? ⟨b, o, none⟩) ∧ (∀ b o, b < W.heap.size → w1.frozen? ⟨b, o, none⟩ = W.frozen? ⟨b, o, none⟩) :=
  ⟨fun b o h => hb.cell (p := ⟨b, o, none⟩) h, fun b o h => hb.frozen (p := ⟨b, o, none⟩) h⟩
end Go.Proofs.Ytckhjemojopekaa
