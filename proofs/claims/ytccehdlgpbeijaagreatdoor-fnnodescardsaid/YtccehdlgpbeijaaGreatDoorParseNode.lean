/-
  What the program's ParseNode does: a reading that gives up is answered by false.
-/
import Derived.Test.YtccehdlgpbeijaaGreatDoorReadNode
import Derived.Test.YtccehdlgpbeijaaGreatDoorCaught
namespace Go.Proofs.YtccehdlgpbeijaaGreatDoor
open Go.RowKit M
set_option linter.unusedVariables false

/-- What ParseNode answers. -/
def PnRet (w w' : World) (x : Option Nd) (e : Ending) : Prop :=
  match x with
  | none => e = .returned (.tuple #[.agg #[.string ⟨#[]⟩, .string ⟨#[]⟩, .string ⟨#[]⟩, .slice none 0 0], .bool false])
  | some n => ∃ (a : Option Addr) (c : Nat), e = .returned (.tuple #[.agg #[.string n.ns, .string n.nm, .string n.tx, .slice a n.ks.length c], .bool true]) ∧ OwnK w' a n.ks (Ivl w.heap.size w'.heap.size)

set_option maxRecDepth 100000 in
set_option maxHeartbeats 4000000 in
theorem parseNode_any (s : ByteArray) (w : World) (hs : s.size ≤ 1048576) :
    Calls Tryz.prog 9 #[.string s] w fun e w' => PnRet w w' (readP (pcsR s.data.toList).1) e ∧ Below w.heap.size w w' := by
  have hmf : ∀ (fn : Fn) (first cap : Array Value) (w : World), (Instr.makeFunc fn first cap).run Tryz.prog w = .ok (.func fn first cap) w := fun _ _ _ _ => rfl
  have bA : Below (w.heap.size + 1) (w.alloc (Obj.cells #[Value.string { data := #[] }, Value.string { data := #[] }, Value.string { data := #[] }, Value.slice none 0 0] 26)) ((w.alloc (Obj.cells #[Value.string { data := #[] }, Value.string { data := #[] }, Value.string { data := #[] }, Value.slice none 0 0] 26)).alloc (Obj.cells #[.bool false] 4)) := (Below.refl _ _).alloc (by simp) _
  have bB : Below w.heap.size w ((w.alloc (Obj.cells #[Value.string { data := #[] }, Value.string { data := #[] }, Value.string { data := #[] }, Value.slice none 0 0] 26)).alloc (Obj.cells #[.bool false] 4)) := ((Below.refl _ _).alloc (Nat.le_refl _) _).alloc (by simp) _
  have HM := hide ((Bx.made w (.string ⟨#[]⟩) (.string ⟨#[]⟩) (.string ⟨#[]⟩) (.slice none 0 0) 26).next bA (by omega))
  have HRN := hide (readNode_any s ((w.alloc (Obj.cells #[Value.string { data := #[] }, Value.string { data := #[] }, Value.string { data := #[] }, Value.slice none 0 0] 26)).alloc (Obj.cells #[.bool false] 4)) hs)
  have HBB := hide bB
  obtain ⟨x, hx⟩ : ∃ x, readP (pcsR s.data.toList).1 = x := ⟨_, rfl⟩
  rw [hx] at HRN ⊢
  clear hx bA bB
  cases x with
  | none =>
    go_enter_defers Tryz.func9, Tryz.ntmps9
    go_wp2_with fail
    refine HRN.out.mono ?_
    rintro e w1 ⟨hn, b1⟩
    have e1 : e = gaveUp := hn
    subst e1
    have hb := b1.size
    simp at hb
    have BM := hide (HM.out.next b1 (by simp; omega))
    have hk1 : w1.cell? ⟨w.heap.size + 1, 0, none⟩ = some (.bool false) := (b1.cell (p := ⟨w.heap.size + 1, 0, none⟩) (by simp)).trans (by simp)
    have hk2 : w1.frozen? ⟨w.heap.size + 1, 0, none⟩ = false := (b1.frozen (p := ⟨w.heap.size + 1, 0, none⟩) (by simp)).trans (by simp)
    have B1 := hide (HBB.out.trans (b1.mono HBB.out.size))
    clear b1 hn
    refine leaves_cons (f := 29) (args := #[.pointer (some ⟨w.heap.size, 0, none⟩), .pointer (some ⟨w.heap.size + 1, 0, none⟩)]) (by simp) (by simp [go_sem]) ?_
    refine (pn_catch w.heap.size (w.heap.size + 1) _ _ [] w1 _ _ _ _ false BM.out hk1 hk2 (by omega)).mono ?_
    rintro e u' w'' ⟨rfl, rfl, rfl⟩
    obtain ⟨_, e0, e1, e2, e3, ez⟩ := BM.out
    refine ⟨.tuple #[.agg #[.string ⟨#[]⟩, .string ⟨#[]⟩, .string ⟨#[]⟩, .slice none 0 0], .bool false], ?_, rfl, ?_⟩
    · simp [results, Tryz.results9, go_sem, caughtW, e0, e1, e2, e3, hk1]
    · exact ((((B1.out.setCell (Nat.le_refl _) _).setCell (Nat.le_refl _) _).setCell (Nat.le_refl _) _).setCell (Nat.le_refl _) _).setCell (by simp) _
  | some n =>
    go_enter_defers Tryz.func9, Tryz.ntmps9
    go_wp2_with fail
    refine HRN.out.mono ?_
    rintro e w1 ⟨⟨a, c, rfl, o1⟩, b1⟩
    have hb := b1.size
    simp at hb
    have bm := HM.out.next b1 (by simp; omega)
    have hk1 : w1.cell? ⟨w.heap.size + 1, 0, none⟩ = some (.bool false) := (b1.cell (p := ⟨w.heap.size + 1, 0, none⟩) (by simp)).trans (by simp)
    have hk2 : w1.frozen? ⟨w.heap.size + 1, 0, none⟩ = false := (b1.frozen (p := ⟨w.heap.size + 1, 0, none⟩) (by simp)).trans (by simp)
    have B1 := hide (HBB.out.trans (b1.mono HBB.out.size))
    have O1 := hide o1
    clear b1 o1
    obtain ⟨_, e0, e1, e2, e3, ez⟩ := bm
    go_wp2
    refine leaves_cons (f := 29) (args := #[.pointer (some ⟨w.heap.size, 0, none⟩), .pointer (some ⟨w.heap.size + 1, 0, none⟩)]) (by simp) (by simp [go_sem]) ?_
    refine (pn_idle ⟨w.heap.size, 0, none⟩ ⟨w.heap.size + 1, 0, none⟩ _).mono ?_
    rintro e u' w'' ⟨rfl, rfl, rfl⟩
    refine ⟨.tuple #[.agg #[.string n.ns, .string n.nm, .string n.tx, .slice a n.ks.length c], .bool true], ?_, ⟨a, c, rfl, ?_⟩, ?_⟩
    · simp [results, Tryz.results9, go_sem, e0, e1, e2, e3, hk1]
    · refine OwnK.wide (((((O1.out.setC _ ?_).setC _ ?_).setC _ ?_).setC _ ?_).setC _ ?_) (fun x hx => ?_)
      all_goals first | (intro x hx; have h1 := hx.1; simp at h1; omega) | (have h1 := hx.1; have h2 := hx.2; simp at h1; unfold Ivl; simp; omega)
    · exact ((((B1.out.setCell (Nat.le_refl _) _).setCell (Nat.le_refl _) _).setCell (Nat.le_refl _) _).setCell (Nat.le_refl _) _).setCell (by simp) _
end Go.Proofs.YtccehdlgpbeijaaGreatDoor
