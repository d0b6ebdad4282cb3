/-
  Slices of nodes: what they hold, and that it stays.
-/
import Derived.Test.YtclnpfpaabmkcabHide
import Derived.Test.YtclnpfpaabmkcabRows
import Derived.Test.YtclnpfpaabmkcabMathNode
import Derived.WalkKit
import Derived.WalkSpells
import Derived.WalkLawsBesides
import Derived.Deep.Light
import Derived.Deep.QuietTactic
import Derived.Deep.OwnRows
namespace Go.Proofs.Ytclnpfpaabmkcab
open Go.RowKit M

/-- The nodes that a slice holds, in blocks below B. -/
inductive Nds (w : World) (B : Nat) : Option Addr → List Nd → Prop
  | nil (a : Option Addr) : Nds w B a []
  | row (b o : Nat) (ks : List Nd) (aj : Nat → Option Addr) (cj : Nat → Nat) (hb : b < B)
      (hc : ∀ j (hj : j < ks.length), w.cell? ⟨b, o + j * 4, none⟩ = some (.string ks[j].ns) ∧ w.cell? ⟨b, o + j * 4 + 1, none⟩ = some (.string ks[j].nm) ∧ w.cell? ⟨b, o + j * 4 + 2, none⟩ = some (.string ks[j].tx) ∧ w.cell? ⟨b, o + j * 4 + 3, none⟩ = some (.slice (aj j) ks[j].ks.length (cj j)))
      (hk : ∀ j (hj : j < ks.length), Nds w B (aj j) ks[j].ks) : Nds w B (some ⟨b, o, none⟩) ks

theorem Nds.stays {w w' : World} {B C : Nat} {a : Option Addr} {ks : List Nd} (h : Nds w B a ks) (hb : Below C w w') (hB : B ≤ C) : Nds w' B a ks := by
  induction h with
  | nil a => exact .nil a
  | row b o ks aj cj hbB hc _ ih =>
    have e : ∀ o', w'.cell? ⟨b, o', none⟩ = w.cell? ⟨b, o', none⟩ := fun o' => hb.cell (p := ⟨b, o', none⟩) (Nat.lt_of_lt_of_le hbB hB)
    exact .row b o ks aj cj hbB (fun j hj => by simp only [e]; exact hc j hj) ih
theorem Nds.mono {w : World} {B C : Nat} {a : Option Addr} {ks : List Nd} (h : Nds w B a ks) (hB : B ≤ C) : Nds w C a ks := by
  induction h with
  | nil a => exact .nil a
  | row b o ks aj cj hbB hc _ ih => exact .row b o ks aj cj (Nat.lt_of_lt_of_le hbB hB) hc ih
theorem Nds.drew {w : World} {B : Nat} {a : Option Addr} {ks : List Nd} (h : Nds w B a ks) : Nds w.drew B a ks := by
  induction h with
  | nil a => exact .nil a
  | row b o ks aj cj hbB hc _ ih => exact .row b o ks aj cj hbB hc ih
theorem Nds.alloc {w : World} {B : Nat} {a : Option Addr} {ks : List Nd} (h : Nds w B a ks) (hB : B ≤ w.heap.size) (x : Obj) : Nds (w.alloc x) B a ks :=
  h.stays ((Below.refl w.heap.size w).alloc (Nat.le_refl _) x) hB
/-- What no store below B touches stays. -/
theorem Nds.setCell {w : World} {B : Nat} {a : Option Addr} {ks : List Nd} (h : Nds w B a ks) (p : Addr) (v : Value) (hp : B ≤ p.block) : Nds (w.setCell p v) B a ks := by
  induction h with
  | nil a => exact .nil a
  | row b o ks aj cj hbB hc _ ih =>
    have e : ∀ o', (w.setCell p v).cell? ⟨b, o', none⟩ = w.cell? ⟨b, o', none⟩ := fun o' => World.cell?_setCell_other _ _ _ _ (fun e => by have := congrArg Addr.block e; simp at this; omega)
    exact .row b o ks aj cj hbB (fun j hj => by simp only [e]; exact hc j hj) ih

/-- One of them. -/
theorem Nds.at {w : World} {B : Nat} {a : Option Addr} {ks : List Nd} (h : Nds w B a ks) (h0 : 0 < ks.length) :
    ∃ (b o : Nat), a = some ⟨b, o, none⟩ ∧ b < B ∧ ∀ j (hj : j < ks.length), ∃ (aj : Option Addr) (cj : Nat), w.cell? ⟨b, o + j * 4, none⟩ = some (.string ks[j].ns) ∧ w.cell? ⟨b, o + j * 4 + 1, none⟩ = some (.string ks[j].nm) ∧ w.cell? ⟨b, o + j * 4 + 2, none⟩ = some (.string ks[j].tx) ∧ w.cell? ⟨b, o + j * 4 + 3, none⟩ = some (.slice aj ks[j].ks.length cj) ∧ Nds w B aj ks[j].ks := by
  cases h with
  | nil a => exact absurd h0 (Nat.lt_irrefl _)
  | row b o ks aj cj hbB hc hk => exact ⟨b, o, rfl, hbB, fun j hj => ⟨aj j, cj j, (hc j hj).1, (hc j hj).2.1, (hc j hj).2.2.1, (hc j hj).2.2.2, hk j hj⟩⟩

mutual
/-- Short enough in all its parts. -/
def Nd.short : Nd → Prop
  | .mk a b c ks => a.size ≤ maxLen ∧ b.size ≤ maxLen ∧ c.size ≤ maxLen ∧ ks.length ≤ maxLen ∧ shortK ks
def shortK : List Nd → Prop
  | [] => True
  | k :: r => k.short ∧ shortK r
end
theorem short_ks (n : Nd) : n.short = (n.ns.size ≤ maxLen ∧ n.nm.size ≤ maxLen ∧ n.tx.size ≤ maxLen ∧ n.ks.length ≤ maxLen ∧ shortK n.ks) := by cases n; rw [Nd.short]; rfl
theorem shortK_at : ∀ (ks : List Nd), shortK ks → ∀ j (hj : j < ks.length), (ks[j]).short
  | k :: r, h, 0, _ => by rw [shortK] at h; exact h.1
  | k :: r, h, j + 1, hj => by rw [shortK] at h; exact shortK_at r h.2 j (by simpa using hj)
theorem shortK_of : ∀ (ks : List Nd), (∀ j (hj : j < ks.length), (ks[j]).short) → shortK ks
  | [], _ => by rw [shortK]; trivial
  | k :: r, h => by
    rw [shortK]
    exact ⟨h 0 (by simp), shortK_of r (fun j hj => h (j + 1) (by simpa using hj))⟩
mutual
theorem short_sz : ∀ n : Nd, n.szN ≤ 1048576 → n.short
  | .mk a b c ks, h => by
    rw [Nd.szN] at h
    rw [Nd.short]
    exact ⟨by unfold maxLen; omega, by unfold maxLen; omega, by unfold maxLen; omega, by unfold maxLen; omega, shortK_sz ks (by omega)⟩
theorem shortK_sz : ∀ ks : List Nd, szL ks ≤ 1048576 → shortK ks
  | [], _ => by rw [shortK]; trivial
  | k :: r, h => by
    rw [szL] at h
    rw [shortK]
    exact ⟨short_sz k (by omega), shortK_sz r (by omega)⟩
end

/-- The value of a node. -/
def ndV (a : Option Addr) (cap : Nat) (n : Nd) : Value := .agg #[.string n.ns, .string n.nm, .string n.tx, .slice a n.ks.length cap]

/-- What was there reads as it did, behind a call that only made memory. -/
theorem bcellN {W w1 : World} (hb : Below W.heap.size W w1) : (∀ b o, b < W.heap.size → w1.cell? ⟨b, o, none⟩ = W.cell? ⟨b, o, none⟩) ∧ (∀ b o, b < W.heap.size → w1.frozen? ⟨b, o, none⟩ = W.frozen? ⟨b, o, none⟩) :=
  ⟨fun b o h => hb.cell (p := ⟨b, o, none⟩) h, fun b o h => hb.frozen (p := ⟨b, o, none⟩) h⟩

theorem strInjN {a b : ByteArray} (h : a.toList = b.toList) : a = b := by
  rw [ByteArray.toList_eq, ByteArray.toList_eq] at h
  exact ByteArray.ext (Array.ext' h)
theorem neStrN {x y : ByteArray} (h : ¬ x = y) : (x.toList == y.toList) = false := by
  rw [beq_eq_false_iff_ne]; exact fun e => h (strInjN e)
theorem eqStrN {x y : ByteArray} (h : x = y) : (x.toList == y.toList) = true := by rw [h]; simp
theorem sameK_drop {ks ls : List Nd} {k : Nat} (h1 : k < ks.length) (h2 : k < ls.length) : sameK (ks.drop k) (ls.drop k) = ((ks[k]).same ls[k] && sameK (ks.drop (k + 1)) (ls.drop (k + 1))) := by
  rw [drop_at ks k h1, drop_at ls k h2, sameK]
theorem below_drewN {C : Nat} {w w' : World} (h : Below C w w') : Below C w w'.drew := ⟨h.os, h.tape, h.output, h.size, h.block⟩
theorem keep8N {W w1 : World} {b1 b2 : Nat} {o0 o1 o2 o3 p0 p1 p2 p3 : Nat} {v0 v1 v2 v3 u0 u1 u2 u3 : Value} (hb : Below W.heap.size W w1) (h1 : b1 < W.heap.size) (h2 : b2 < W.heap.size)
    (h : W.cell? ⟨b1, o0, none⟩ = some v0 ∧ W.cell? ⟨b1, o1, none⟩ = some v1 ∧ W.cell? ⟨b1, o2, none⟩ = some v2 ∧ W.cell? ⟨b1, o3, none⟩ = some v3 ∧ W.cell? ⟨b2, p0, none⟩ = some u0 ∧ W.cell? ⟨b2, p1, none⟩ = some u1 ∧ W.cell? ⟨b2, p2, none⟩ = some u2 ∧ W.cell? ⟨b2, p3, none⟩ = some u3) :
    w1.cell? ⟨b1, o0, none⟩ = some v0 ∧ w1.cell? ⟨b1, o1, none⟩ = some v1 ∧ w1.cell? ⟨b1, o2, none⟩ = some v2 ∧ w1.cell? ⟨b1, o3, none⟩ = some v3 ∧ w1.cell? ⟨b2, p0, none⟩ = some u0 ∧ w1.cell? ⟨b2, p1, none⟩ = some u1 ∧ w1.cell? ⟨b2, p2, none⟩ = some u2 ∧ w1.cell? ⟨b2, p3, none⟩ = some u3 := by
  simp only [(bcellN hb).1 b1 _ h1, (bcellN hb).1 b2 _ h2]
  exact h
end Go.Proofs.Ytclnpfpaabmkcab
