/-
  What the specification's l8Read does: one node.
-/
import Derived.Test.YtccehdlgpbeijaaGreatDoorSpecSkip
import Derived.BigRegion
namespace Go.Proofs.YtccehdlgpbeijaaGreatDoor
open Go.RowKit M
set_option linter.unusedVariables false

/-- All but two blocks stay. -/
structure Two (w w' : World) (N M : Nat) : Prop where
  os : w'.os = w.os
  tape : w'.tape = w.tape
  output : w'.output = w.output
  size : w.heap.size ≤ w'.heap.size
  block : ∀ k, k < w.heap.size → k ≠ N → k ≠ M → w'.heap[k]? = w.heap[k]?
theorem Two.grown {w w1 w2 : World} {N M : Nat} (h : w.grownBy w1 (some N)) (k : Two w1 w2 N M) (hM : w.heap.size ≤ M) : w.grownBy w2 (some N) :=
  ⟨k.os.trans h.os, k.tape.trans h.tape, k.output.trans h.output, Nat.le_trans h.size k.size, fun i hi hn => (k.block i (Nat.lt_of_lt_of_le hi h.size) (fun e => hn (by rw [e])) (by omega)).trans (h.block i hi hn)⟩
theorem Bx.two {w w' : World} {b N M : Nat} {v0 v1 v2 v3 : Value} (h : Bx w b v0 v1 v2 v3) (hg : Two w w' N M) (hN : b ≠ N) (hM : b ≠ M) : Bx w' b v0 v1 v2 v3 := h.of hg.size (hg.block b h.lt hN hM)

/-- What a node is handed back as. -/
def SrRet (w w' : World) (N B : Nat) (all : List Pce) (x : Option (Nd × List Pce)) (e : Ending) : Prop :=
  match x with
  | none => (∃ (v0 v1 v2 : ByteArray) (a : Option Addr) (n c : Nat), e = .returned (.agg #[.string v0, .string v1, .string v2, .slice a n c])) ∧ ∃ k', k' ≤ all.length ∧ Sr w' N B all k' true
  | some (n, r) => (∃ (a : Option Addr) (c : Nat), e = .returned (.agg #[.string n.ns, .string n.nm, .string n.tx, .slice a n.ks.length c]) ∧ OwnK w' a n.ks (Ivl w.heap.size w'.heap.size)) ∧ ∃ k', k' ≤ all.length ∧ all.drop k' = r ∧ Sr w' N B all k' false
def KsRet (w w' : World) (N B M : Nat) (all : List Pce) (x : Option (Nd × List Pce)) : Prop :=
  match x with
  | none => (∃ (v0 v1 v2 : ByteArray) (a : Option Addr) (n c : Nat), Bx w' M (.string v0) (.string v1) (.string v2) (.slice a n c)) ∧ ∃ k', k' ≤ all.length ∧ Sr w' N B all k' true
  | some (n, r) => (∃ (a : Option Addr) (c : Nat), Bx w' M (.string n.ns) (.string n.nm) (.string n.tx) (.slice a n.ks.length c) ∧ OwnK w' a n.ks (Ivl w.heap.size w'.heap.size)) ∧ ∃ k', k' ≤ all.length ∧ all.drop k' = r ∧ Sr w' N B all k' false
def SpN (f : Nat) : Prop := ∀ (all : List Pce) (k : Nat) (ns : ByteArray) (d N B : Nat) (dd : Int) (w : World), k ≤ all.length → all.length ≤ 1000 → 2 * (all.length - k) + 1 ≤ f → d ≤ 5 → dd = 6 - (d : Int) → Sr w N B all k false → (∀ p ∈ all, p.s.size ≤ 1048576) →
    Calls Tryz.prog 33 #[.pointer (some ⟨N, 0, none⟩), .string ns, .int .i64 dd] w fun e w' => SrRet w w' N B all (sdN f d (all.drop k) ns) e ∧ w.grownBy w' (some N)
def SpK (f : Nat) : Prop := ∀ (all : List Pce) (k : Nat) (ns nm : ByteArray) (d N B M : Nat) (dd : Int) (w : World), k ≤ all.length → all.length ≤ 1000 → 2 * (all.length - k) + 2 ≤ f → d ≤ 4 → dd = 5 - (d : Int) → Sr w N B all k false → B ≤ M → N ≠ M → Bx w M (.string ns) (.string nm) (.string ⟨#[]⟩) (.slice none 0 0) → (∀ p ∈ all, p.s.size ≤ 1048576) →
    Calls Tryz.prog 57 #[.pointer (some ⟨N, 0, none⟩), .pointer (some ⟨M, 0, none⟩), .int .i64 dd] w fun e w' => e = .returned (.tuple #[]) ∧ KsRet w w' N B M all (sdK f d (all.drop k) ns nm [] []) ∧ Two w w' N M

theorem Sr.alloc {w : World} {N B : Nat} {all : List Pce} {k : Nat} {bad : Bool} (h : Sr w N B all k bad) (o : Obj) : Sr (w.alloc o) N B all k bad :=
  h.nextB ((Below.refl w.heap.size w).alloc (Nat.le_refl _) o) h.lt
theorem Sr.other {w : World} {N B b j : Nat} {all : List Pce} {k : Nat} {bad : Bool} (h : Sr w N B all k bad) (hb : B ≤ b) (hn : N ≠ b) (v : Value) : Sr (w.setCell ⟨b, j, none⟩ v) N B all k bad := by
  obtain ⟨a, c, h1, h2⟩ := h.row
  have hne : ∀ i, (⟨b, j, none⟩ : Addr) ≠ ⟨N, i, none⟩ := fun i e => hn (by have := congrArg Addr.block e; simp at this; exact this.symm)
  exact ⟨by simpa using h.lt, h.hB, fun i => by rw [World.frozen?_setCell]; exact h.fz i, ⟨a, c, (World.cell?_setCell_other _ _ _ _ (hne 0)).trans h1, h2.set hb _⟩, (World.cell?_setCell_other _ _ _ _ (hne 1)).trans h.c1, (World.cell?_setCell_other _ _ _ _ (hne 2)).trans h.c2⟩
theorem Bx.drewN {w : World} {b : Nat} {v0 v1 v2 v3 : Value} (h : Bx w b v0 v1 v2 v3) (n : Nat) : Bx (w.drewN n) b v0 v1 v2 v3 := ⟨h.lt, h.c0, h.c1, h.c2, h.c3, h.fz⟩
theorem sdN_deep (f : Nat) (l : List Pce) (o : ByteArray) (hf : 1 ≤ f) : sdN f 0 l o = none := by
  obtain ⟨g, rfl⟩ : ∃ g, f = g + 1 := ⟨f - 1, by omega⟩
  rw [sdN]
theorem sdN_end (f d : Nat) (o : ByteArray) : sdN f d [] o = none := by
  cases f with
  | zero => rw [sdN]
  | succ f => cases d <;> rw [sdN]
theorem sdN_bad (f d : Nat) (p : Pce) (r : List Pce) (o : ByteArray) (h3 : ¬ p.k = 3) (h1 : ¬ p.k = 1) : sdN f d (p :: r) o = none := by
  cases f with
  | zero => rw [sdN]
  | succ f =>
    cases d with
    | zero => rw [sdN]
    | succ d => rw [sdN, if_neg h3, if_neg h1]
theorem sdN_three (f d : Nat) (p : Pce) (r : List Pce) (o : ByteArray) (hf : 1 ≤ f) (hd : 1 ≤ d) (h3 : p.k = 3) : sdN f d (p :: r) o = some (.mk (if p.has then p.ns else o) p.name ⟨#[]⟩ [], r) := by
  obtain ⟨g, rfl⟩ : ∃ g, f = g + 1 := ⟨f - 1, by omega⟩
  obtain ⟨e, rfl⟩ : ∃ e, d = e + 1 := ⟨d - 1, by omega⟩
  rw [sdN, if_pos h3]
theorem sdN_one (f d : Nat) (p : Pce) (r : List Pce) (o : ByteArray) (hf : 1 ≤ f) (hd : 1 ≤ d) (h1 : p.k = 1) : sdN f d (p :: r) o = sdK (f - 1) (d - 1) r (if p.has then p.ns else o) p.name [] [] := by
  obtain ⟨g, rfl⟩ : ∃ g, f = g + 1 := ⟨f - 1, by omega⟩
  obtain ⟨e, rfl⟩ : ∃ e, d = e + 1 := ⟨d - 1, by omega⟩
  rw [sdN, if_neg (by rw [h1]; decide), if_pos h1]
  rfl

set_option maxRecDepth 100000 in
set_option maxHeartbeats 8000000 in
theorem l8Read_step (f : Nat) (ih : ∀ g, g < f → SpK g) : SpN f := by
  intro all k ns d N B dd w hk hal hf hd hdd h hz
  have HI : Hid (∀ g, g < f → SpK g) := ih
  have HZ := hide hz
  have HDD := hide hdd
  have hd1 : 1 ≤ dd := by omega
  have hd6 : dd ≤ 6 := by omega
  have hNlt := h.lt
  have hBN := h.hB
  have bA := (Below.refl w.heap.size w).alloc (Nat.le_refl _) (Obj.cells #[Value.string { data := #[] }, Value.string { data := #[] }, Value.string { data := #[] }, Value.slice none 0 0] 26)
  have SA := h.alloc (Obj.cells #[Value.string { data := #[] }, Value.string { data := #[] }, Value.string { data := #[] }, Value.slice none 0 0] 26)
  have BR := Bx.made w (.string ⟨#[]⟩) (.string ⟨#[]⟩) (.string ⟨#[]⟩) (.slice none 0 0) 26
  obtain ⟨wA, hwA⟩ : ∃ wA, w.alloc (Obj.cells #[Value.string { data := #[] }, Value.string { data := #[] }, Value.string { data := #[] }, Value.slice none 0 0] 26) = wA := ⟨_, rfl⟩
  have hzA : wA.heap.size = w.heap.size + 1 := by rw [← hwA]; simp
  rw [hwA] at bA SA BR
  have HWA := hide hwA
  have HBA := hide bA
  have HSA := hide SA
  have HBR := hide BR
  have HZA := hide hzA
  clear ih hz h bA SA BR hwA hzA hdd
  obtain ⟨a, c, h1, h2⟩ := HSA.out.row
  have hc1 := HSA.out.c1
  have hc2 := HSA.out.c2
  have hfz := HSA.out.fz
  by_cases hd0 : d = 0
  · have HN : Hid (sdN f d (all.drop k) ns = none) := by show sdN f d _ _ = none; rw [hd0]; exact sdN_deep f _ _ (by omega)
    have hd5 : decide ((5 : Int) < dd) = true := decide_eq_true (by have := HDD.out; omega)
    have hd5' : (5 : Int) < dd := by have := HDD.out; omega
    clear hd0 h1 h2
    go_enter Tryz.func33, Tryz.ntmps33
    go_wp2
    rw [HWA.out]
    go_quiet (fail)
    have c2' : (wA.drewN nq).cell? ⟨N, 2, none⟩ = some (.bool false) := hc2
    have fz' : ∀ j, (wA.drewN nq).frozen? ⟨N, j, none⟩ = false := hfz
    have S1 := hide ((HSA.out.drew nq).bad true)
    have B1 := hide ((HBR.out.drewN nq).other (b' := N) (k := 2) (.bool true) (by omega))
    have G1 := hide (grownR_set (show w.grownBy (wA.drewN nq) (some N) from grownR_drew (grownR_of HBA.out) nq) 2 (.bool true))
    obtain ⟨_, d0, d1, d2, d3, dz⟩ := B1.out
    go_wp2
    refine bodyPost_ret (v := .agg #[.string ⟨#[]⟩, .string ⟨#[]⟩, .string ⟨#[]⟩, .slice none 0 0]) (by simp [results, Tryz.results33, go_sem, d0, d1, d2, d3]) rfl ?_
    rw [HN.out]
    refine ⟨⟨⟨_, _, _, _, _, _, rfl⟩, k, hk, ?_⟩, ?_⟩
    · exact (((S1.out.other (by omega) (by omega) _).other (by omega) (by omega) _).other (by omega) (by omega) _).other (by omega) (by omega) _
    · exact grownR_setB (grownR_setB (grownR_setB (grownR_setB G1.out _ (Nat.le_refl _)) _ (Nat.le_refl _)) _ (Nat.le_refl _)) _ (Nat.le_refl _)
  · have hd5 : decide ((5 : Int) < dd) = false := decide_eq_false (by have := HDD.out; omega)
    have hd5' : ¬ (5 : Int) < dd := by have := HDD.out; omega
    by_cases hlt : k < all.length
    · obtain ⟨b, o, rfl, hbB, hcs⟩ := h2 (by omega)
      obtain ⟨x0, x1, x2, x3, x4⟩ := hcs k hlt
      have hin : 0 ≤ (k : Int) ∧ (k : Int) < all.length := by omega
      have HDR := hide (List.drop_eq_getElem_cons hlt)
      clear hcs h2
      obtain ⟨p, hp⟩ : ∃ p, all[k] = p := ⟨_, rfl⟩
      rw [hp] at x0 x1 x2 x3 x4 HDR
      clear hp
      obtain ⟨pk, pn, pns, ph, ps⟩ := p
      simp only at x0 x1 x2 x3 x4
      have hge : decide (all.length ≤ k) = false := decide_eq_false (by omega)
      by_cases hk1 : pk = 1
      · subst hk1
        have HX : Hid (sdN f d (all.drop k) ns = sdK (f - 1) (d - 1) (all.drop (k + 1)) (if ph then pns else ns) pn [] []) := by
          show sdN f d (all.drop k) ns = _
          rw [HDR.out]; exact sdN_one f d _ _ ns (by omega) (by omega) rfl
        clear HDR
        cases ph
        · skip
          rw [if_neg (by decide)] at HX
          go_enter Tryz.func33, Tryz.ntmps33
          go_wp2
          rw [HWA.out]
          go_quiet (fail)
          go_wp2
          have HSB := hide (HSA.out.drew nq)
          have HBB := hide (HBR.out.drewN nq)
          have y0 : (wA.drewN nq).cell? ⟨b, o + k * 5, none⟩ = some (.int .i64 1) := x0
          have y1 : (wA.drewN nq).cell? ⟨b, o + k * 5 + 1, none⟩ = some (.string pn) := x1
          have y2 : (wA.drewN nq).cell? ⟨b, o + k * 5 + 2, none⟩ = some (.string pns) := x2
          have y3 : (wA.drewN nq).cell? ⟨b, o + k * 5 + 3, none⟩ = some (.bool false) := x3
          have y4 : (wA.drewN nq).cell? ⟨b, o + k * 5 + 4, none⟩ = some (.string ps) := x4
          have g0 : (wA.drewN nq).cell? ⟨N, 0, none⟩ = some (.slice (some ⟨b, o, none⟩) all.length c) := h1
          have g1 : (wA.drewN nq).cell? ⟨N, 1, none⟩ = some (.int .i64 k) := hc1
          have GB := hide (show w.grownBy (wA.drewN nq) (some N) from grownR_drew (grownR_of HBA.out) nq)
          have zB : Hid ((wA.drewN nq).heap.size = w.heap.size + 1) := HZA.out
          obtain ⟨wB, hwB⟩ : ∃ wB, wA.drewN nq = wB := ⟨_, rfl⟩
          rw [hwB] at HSB HBB y0 y1 y2 y3 y4 g0 g1 GB zB ⊢
          clear hwB x0 x1 x2 x3 x4 h1 hc1 hc2 hfz HSA HBR HWA HBA HZA
          have hbl : b < wB.heap.size := by have := HSB.out.hB; have := HSB.out.lt; omega
          have hNl : N < wB.heap.size := HSB.out.lt
          have ya0 := (World.cell?_alloc_past (w := wB) (Obj.cells #[Value.int IntKind.i64 0, Value.string { data := #[] }, Value.string { data := #[] }, Value.bool false, Value.string { data := #[] }] 89) b (o + k * 5) hbl).trans y0
          have ya1 := (World.cell?_alloc_past (w := wB) (Obj.cells #[Value.int IntKind.i64 0, Value.string { data := #[] }, Value.string { data := #[] }, Value.bool false, Value.string { data := #[] }] 89) b (o + k * 5 + 1) hbl).trans y1
          have ya2 := (World.cell?_alloc_past (w := wB) (Obj.cells #[Value.int IntKind.i64 0, Value.string { data := #[] }, Value.string { data := #[] }, Value.bool false, Value.string { data := #[] }] 89) b (o + k * 5 + 2) hbl).trans y2
          have ya3 := (World.cell?_alloc_past (w := wB) (Obj.cells #[Value.int IntKind.i64 0, Value.string { data := #[] }, Value.string { data := #[] }, Value.bool false, Value.string { data := #[] }] 89) b (o + k * 5 + 3) hbl).trans y3
          have ya4 := (World.cell?_alloc_past (w := wB) (Obj.cells #[Value.int IntKind.i64 0, Value.string { data := #[] }, Value.string { data := #[] }, Value.bool false, Value.string { data := #[] }] 89) b (o + k * 5 + 4) hbl).trans y4
          have ga0 := (World.cell?_alloc_past (w := wB) (Obj.cells #[Value.int IntKind.i64 0, Value.string { data := #[] }, Value.string { data := #[] }, Value.bool false, Value.string { data := #[] }] 89) N (0) hNl).trans g0
          have ga1 := (World.cell?_alloc_past (w := wB) (Obj.cells #[Value.int IntKind.i64 0, Value.string { data := #[] }, Value.string { data := #[] }, Value.bool false, Value.string { data := #[] }] 89) N (1) hNl).trans g1
          go_region
          have HSC := hide (Sr.drew (HSB.out.alloc (Obj.cells #[.int .i64 1, .string pn, .string pns, .bool false, .string ps] 89)) 1)
          have bC : Below wB.heap.size wB ((wB.alloc (Obj.cells #[.int .i64 1, .string pn, .string pns, .bool false, .string ps] 89)).drewN 1) := below_drewN ((Below.refl _ _).alloc (Nat.le_refl _) _)
          have HBC := hide (HBB.out.next bC HBB.out.lt)
          have GC := hide (grownR_below GB.out (bC.mono (by have := zB.out; omega)))
          have PC : Hid (((wB.alloc (Obj.cells #[.int .i64 1, .string pn, .string pns, .bool false, .string ps] 89)).drewN 1).cell? ⟨w.heap.size + 1, 0, none⟩ = some (.int .i64 1) ∧ ((wB.alloc (Obj.cells #[.int .i64 1, .string pn, .string pns, .bool false, .string ps] 89)).drewN 1).cell? ⟨w.heap.size + 1, 1, none⟩ = some (.string pn) ∧ ((wB.alloc (Obj.cells #[.int .i64 1, .string pn, .string pns, .bool false, .string ps] 89)).drewN 1).cell? ⟨w.heap.size + 1, 2, none⟩ = some (.string pns) ∧ ((wB.alloc (Obj.cells #[.int .i64 1, .string pn, .string pns, .bool false, .string ps] 89)).drewN 1).cell? ⟨w.heap.size + 1, 3, none⟩ = some (.bool false)) := by
            rw [← zB.out]
            exact ⟨by simp, by simp, by simp, by simp⟩
          have zC : Hid (((wB.alloc (Obj.cells #[.int .i64 1, .string pn, .string pns, .bool false, .string ps] 89)).drewN 1).heap.size = w.heap.size + 1 + 1) := by show _ = _; simp [zB.out]
          rw [zB.out]
          obtain ⟨wC, hwC⟩ : ∃ wC, (wB.alloc (Obj.cells #[.int .i64 1, .string pn, .string pns, .bool false, .string ps] 89)).drewN 1 = wC := ⟨_, rfl⟩
          rw [hwC] at HSC HBC GC PC zC
          have hwC' : (wB.alloc (Obj.cells #[.int .i64 1, .string pn, .string pns, .bool false, .string ps] 89)).drew = wC := hwC
          rw [hwC']
          clear hwC hwC' bC y0 y1 y2 y3 y4 g0 g1 ya0 ya1 ya2 ya3 ya4 ga0 ga1 hbl hNl HSB HBB GB zB
          obtain ⟨p0, p1, p2, p3⟩ := PC.out
          have q1 := HSC.out.c1
          have qz := HSC.out.fz
          have S2 := hide (HSC.out.step (k + 1))
          have B2 := hide (HBC.out.other (b' := N) (k := 1) (.int .i64 ((k + 1 : Nat) : Int)) (by omega))
          have G2 := hide (grownR_set GC.out 1 (.int .i64 ((k + 1 : Nat) : Int)))
          have hPN : N ≠ w.heap.size + 1 := by omega
          have hkw : ((k + 1 : Nat) : Int) = (k : Int) + 1 := by simp
          rw [hkw] at S2 B2 G2
          have zD : Hid ((wC.setCell ⟨N, 1, none⟩ (.int .i64 ((k : Int) + 1))).heap.size = w.heap.size + 1 + 1) := by show _ = _; simp [zC.out]
          have PD : Hid ((wC.setCell ⟨N, 1, none⟩ (.int .i64 ((k : Int) + 1))).cell? ⟨w.heap.size + 1, 0, none⟩ = some (.int .i64 1) ∧ (wC.setCell ⟨N, 1, none⟩ (.int .i64 ((k : Int) + 1))).cell? ⟨w.heap.size + 1, 1, none⟩ = some (.string pn) ∧ (wC.setCell ⟨N, 1, none⟩ (.int .i64 ((k : Int) + 1))).cell? ⟨w.heap.size + 1, 2, none⟩ = some (.string pns) ∧ (wC.setCell ⟨N, 1, none⟩ (.int .i64 ((k : Int) + 1))).cell? ⟨w.heap.size + 1, 3, none⟩ = some (.bool false)) := by
            have hne : ∀ i, (⟨N, 1, none⟩ : Addr) ≠ ⟨w.heap.size + 1, i, none⟩ := fun i e => hPN (by have := congrArg Addr.block e; simpa using this)
            exact ⟨(World.cell?_setCell_other _ _ _ _ (hne 0)).trans p0, (World.cell?_setCell_other _ _ _ _ (hne 1)).trans p1, (World.cell?_setCell_other _ _ _ _ (hne 2)).trans p2, (World.cell?_setCell_other _ _ _ _ (hne 3)).trans p3⟩
          obtain ⟨wD, hwD⟩ : ∃ wD, wC.setCell ⟨N, 1, none⟩ (.int .i64 ((k : Int) + 1)) = wD := ⟨_, rfl⟩
          rw [hwD] at S2 B2 G2 zD PD
          obtain ⟨e0, e1, e2, e3⟩ := PD.out
          have bE := (Below.refl wD.heap.size wD).alloc (Nat.le_refl _) (Obj.cells #[.string ns, .string pn, .string ⟨#[]⟩, .slice none 0 0] 26)
          have S3 := hide (S2.out.alloc (Obj.cells #[.string ns, .string pn, .string ⟨#[]⟩, .slice none 0 0] 26))
          have B3 := hide (B2.out.next bE B2.out.lt)
          have G3 := hide (grownR_below G2.out (bE.mono (by have := zD.out; omega)))
          have M3 := hide (Bx.made wD (.string ns) (.string pn) (.string ⟨#[]⟩) (.slice none 0 0) 26)
          have hMN : N < wD.heap.size := by have := zD.out; omega
          have hMR : w.heap.size < wD.heap.size := by have := zD.out; omega
          have hMP : w.heap.size + 1 < wD.heap.size := by have := zD.out; omega
          clear p0 p1 p2 p3 bE HSC HBC GC PC zC PD zD
          have HKD := hide (HI.out (f - 1) (by omega) all (k + 1) ns pn (d - 1) N B wD.heap.size dd _ (by omega) hal (by omega) (by omega) (by have := HDD.out; omega) S3.out (by omega) (by omega) M3.out HZ.out)
          obtain ⟨x, hx⟩ : ∃ x, sdK (f - 1) (d - 1) (all.drop (k + 1)) ns pn [] [] = x := ⟨_, rfl⟩
          rw [hx] at HKD HX
          clear hx S3 M3 HI
          cases x with
          | none =>
            go_wp2_with fail
            refine HKD.out.mono ?_
            rintro e w5 ⟨rfl, ⟨⟨v0, v1, v2, a5, n5, c5, m5⟩, k5, hk5, s5⟩, t5⟩
            have S5 := hide s5
            have BR5 := hide (B3.out.two t5 (by omega) (by omega))
            have G5 := hide (t5.grown G3.out (by omega))
            obtain ⟨_, m0, m1, m2, m3, mz⟩ := m5
            obtain ⟨_, d0, d1, d2, d3, dz⟩ := BR5.out
            clear s5 t5 e0 e1 e2 e3 HKD B3 G3
            go_wp2
            refine bodyPost_ret (v := .agg #[.string v0, .string v1, .string v2, .slice a5 n5 c5]) (by simp [results, Tryz.results33, go_sem, d0, d1, d2, d3]) rfl ?_
            rw [HX.out]
            refine ⟨⟨⟨_, _, _, _, _, _, rfl⟩, k5, hk5, ?_⟩, ?_⟩
            · exact (((S5.out.other (by omega) (by omega) _).other (by omega) (by omega) _).other (by omega) (by omega) _).other (by omega) (by omega) _
            · exact grownR_setB (grownR_setB (grownR_setB (grownR_setB G5.out _ (Nat.le_refl _)) _ (Nat.le_refl _)) _ (Nat.le_refl _)) _ (Nat.le_refl _)
          | some y =>
            obtain ⟨n, r⟩ := y
            go_wp2_with fail
            refine HKD.out.mono ?_
            rintro e w5 ⟨rfl, ⟨⟨a5, c5, m5, o5⟩, k5, hk5, hr5, s5⟩, t5⟩
            have S5 := hide s5
            have O5 := hide o5
            have HR5 := hide hr5
            have BR5 := hide (B3.out.two t5 (by omega) (by omega))
            have G5 := hide (t5.grown G3.out (by omega))
            have z5 := t5.size
            simp at z5
            obtain ⟨_, m0, m1, m2, m3, mz⟩ := m5
            obtain ⟨_, d0, d1, d2, d3, dz⟩ := BR5.out
            clear s5 o5 t5 hr5 e0 e1 e2 e3 HKD B3 G3
            go_wp2
            refine bodyPost_ret (v := .agg #[.string n.ns, .string n.nm, .string n.tx, .slice a5 n.ks.length c5]) (by simp [results, Tryz.results33, go_sem, d0, d1, d2, d3]) rfl ?_
            rw [HX.out]
            refine ⟨⟨⟨a5, c5, rfl, ?_⟩, k5, hk5, HR5.out, ?_⟩, ?_⟩
            · refine OwnK.wide ((((O5.out.setC _ ?_).setC _ ?_).setC _ ?_).setC _ ?_) (fun x hx => ?_)
              all_goals first | (intro x hx; have h1 := hx.1; simp at h1; omega) | (have h1 := hx.1; have h2 := hx.2; simp at h1; unfold Ivl; simp; omega)
            · exact (((S5.out.other (by omega) (by omega) _).other (by omega) (by omega) _).other (by omega) (by omega) _).other (by omega) (by omega) _
            · exact grownR_setB (grownR_setB (grownR_setB (grownR_setB G5.out _ (Nat.le_refl _)) _ (Nat.le_refl _)) _ (Nat.le_refl _)) _ (Nat.le_refl _)
        · skip
          rw [if_pos rfl] at HX
          go_enter Tryz.func33, Tryz.ntmps33
          go_wp2
          rw [HWA.out]
          go_quiet (fail)
          go_wp2
          have HSB := hide (HSA.out.drew nq)
          have HBB := hide (HBR.out.drewN nq)
          have y0 : (wA.drewN nq).cell? ⟨b, o + k * 5, none⟩ = some (.int .i64 1) := x0
          have y1 : (wA.drewN nq).cell? ⟨b, o + k * 5 + 1, none⟩ = some (.string pn) := x1
          have y2 : (wA.drewN nq).cell? ⟨b, o + k * 5 + 2, none⟩ = some (.string pns) := x2
          have y3 : (wA.drewN nq).cell? ⟨b, o + k * 5 + 3, none⟩ = some (.bool true) := x3
          have y4 : (wA.drewN nq).cell? ⟨b, o + k * 5 + 4, none⟩ = some (.string ps) := x4
          have g0 : (wA.drewN nq).cell? ⟨N, 0, none⟩ = some (.slice (some ⟨b, o, none⟩) all.length c) := h1
          have g1 : (wA.drewN nq).cell? ⟨N, 1, none⟩ = some (.int .i64 k) := hc1
          have GB := hide (show w.grownBy (wA.drewN nq) (some N) from grownR_drew (grownR_of HBA.out) nq)
          have zB : Hid ((wA.drewN nq).heap.size = w.heap.size + 1) := HZA.out
          obtain ⟨wB, hwB⟩ : ∃ wB, wA.drewN nq = wB := ⟨_, rfl⟩
          rw [hwB] at HSB HBB y0 y1 y2 y3 y4 g0 g1 GB zB ⊢
          clear hwB x0 x1 x2 x3 x4 h1 hc1 hc2 hfz HSA HBR HWA HBA HZA
          have hbl : b < wB.heap.size := by have := HSB.out.hB; have := HSB.out.lt; omega
          have hNl : N < wB.heap.size := HSB.out.lt
          have ya0 := (World.cell?_alloc_past (w := wB) (Obj.cells #[Value.int IntKind.i64 0, Value.string { data := #[] }, Value.string { data := #[] }, Value.bool false, Value.string { data := #[] }] 89) b (o + k * 5) hbl).trans y0
          have ya1 := (World.cell?_alloc_past (w := wB) (Obj.cells #[Value.int IntKind.i64 0, Value.string { data := #[] }, Value.string { data := #[] }, Value.bool false, Value.string { data := #[] }] 89) b (o + k * 5 + 1) hbl).trans y1
          have ya2 := (World.cell?_alloc_past (w := wB) (Obj.cells #[Value.int IntKind.i64 0, Value.string { data := #[] }, Value.string { data := #[] }, Value.bool false, Value.string { data := #[] }] 89) b (o + k * 5 + 2) hbl).trans y2
          have ya3 := (World.cell?_alloc_past (w := wB) (Obj.cells #[Value.int IntKind.i64 0, Value.string { data := #[] }, Value.string { data := #[] }, Value.bool false, Value.string { data := #[] }] 89) b (o + k * 5 + 3) hbl).trans y3
          have ya4 := (World.cell?_alloc_past (w := wB) (Obj.cells #[Value.int IntKind.i64 0, Value.string { data := #[] }, Value.string { data := #[] }, Value.bool false, Value.string { data := #[] }] 89) b (o + k * 5 + 4) hbl).trans y4
          have ga0 := (World.cell?_alloc_past (w := wB) (Obj.cells #[Value.int IntKind.i64 0, Value.string { data := #[] }, Value.string { data := #[] }, Value.bool false, Value.string { data := #[] }] 89) N (0) hNl).trans g0
          have ga1 := (World.cell?_alloc_past (w := wB) (Obj.cells #[Value.int IntKind.i64 0, Value.string { data := #[] }, Value.string { data := #[] }, Value.bool false, Value.string { data := #[] }] 89) N (1) hNl).trans g1
          go_region
          have HSC := hide (Sr.drew (HSB.out.alloc (Obj.cells #[.int .i64 1, .string pn, .string pns, .bool true, .string ps] 89)) 1)
          have bC : Below wB.heap.size wB ((wB.alloc (Obj.cells #[.int .i64 1, .string pn, .string pns, .bool true, .string ps] 89)).drewN 1) := below_drewN ((Below.refl _ _).alloc (Nat.le_refl _) _)
          have HBC := hide (HBB.out.next bC HBB.out.lt)
          have GC := hide (grownR_below GB.out (bC.mono (by have := zB.out; omega)))
          have PC : Hid (((wB.alloc (Obj.cells #[.int .i64 1, .string pn, .string pns, .bool true, .string ps] 89)).drewN 1).cell? ⟨w.heap.size + 1, 0, none⟩ = some (.int .i64 1) ∧ ((wB.alloc (Obj.cells #[.int .i64 1, .string pn, .string pns, .bool true, .string ps] 89)).drewN 1).cell? ⟨w.heap.size + 1, 1, none⟩ = some (.string pn) ∧ ((wB.alloc (Obj.cells #[.int .i64 1, .string pn, .string pns, .bool true, .string ps] 89)).drewN 1).cell? ⟨w.heap.size + 1, 2, none⟩ = some (.string pns) ∧ ((wB.alloc (Obj.cells #[.int .i64 1, .string pn, .string pns, .bool true, .string ps] 89)).drewN 1).cell? ⟨w.heap.size + 1, 3, none⟩ = some (.bool true)) := by
            rw [← zB.out]
            exact ⟨by simp, by simp, by simp, by simp⟩
          have zC : Hid (((wB.alloc (Obj.cells #[.int .i64 1, .string pn, .string pns, .bool true, .string ps] 89)).drewN 1).heap.size = w.heap.size + 1 + 1) := by show _ = _; simp [zB.out]
          rw [zB.out]
          obtain ⟨wC, hwC⟩ : ∃ wC, (wB.alloc (Obj.cells #[.int .i64 1, .string pn, .string pns, .bool true, .string ps] 89)).drewN 1 = wC := ⟨_, rfl⟩
          rw [hwC] at HSC HBC GC PC zC
          have hwC' : (wB.alloc (Obj.cells #[.int .i64 1, .string pn, .string pns, .bool true, .string ps] 89)).drew = wC := hwC
          rw [hwC']
          clear hwC hwC' bC y0 y1 y2 y3 y4 g0 g1 ya0 ya1 ya2 ya3 ya4 ga0 ga1 hbl hNl HSB HBB GB zB
          obtain ⟨p0, p1, p2, p3⟩ := PC.out
          have q1 := HSC.out.c1
          have qz := HSC.out.fz
          have S2 := hide (HSC.out.step (k + 1))
          have B2 := hide (HBC.out.other (b' := N) (k := 1) (.int .i64 ((k + 1 : Nat) : Int)) (by omega))
          have G2 := hide (grownR_set GC.out 1 (.int .i64 ((k + 1 : Nat) : Int)))
          have hPN : N ≠ w.heap.size + 1 := by omega
          have hkw : ((k + 1 : Nat) : Int) = (k : Int) + 1 := by simp
          rw [hkw] at S2 B2 G2
          have zD : Hid ((wC.setCell ⟨N, 1, none⟩ (.int .i64 ((k : Int) + 1))).heap.size = w.heap.size + 1 + 1) := by show _ = _; simp [zC.out]
          have PD : Hid ((wC.setCell ⟨N, 1, none⟩ (.int .i64 ((k : Int) + 1))).cell? ⟨w.heap.size + 1, 0, none⟩ = some (.int .i64 1) ∧ (wC.setCell ⟨N, 1, none⟩ (.int .i64 ((k : Int) + 1))).cell? ⟨w.heap.size + 1, 1, none⟩ = some (.string pn) ∧ (wC.setCell ⟨N, 1, none⟩ (.int .i64 ((k : Int) + 1))).cell? ⟨w.heap.size + 1, 2, none⟩ = some (.string pns) ∧ (wC.setCell ⟨N, 1, none⟩ (.int .i64 ((k : Int) + 1))).cell? ⟨w.heap.size + 1, 3, none⟩ = some (.bool true)) := by
            have hne : ∀ i, (⟨N, 1, none⟩ : Addr) ≠ ⟨w.heap.size + 1, i, none⟩ := fun i e => hPN (by have := congrArg Addr.block e; simpa using this)
            exact ⟨(World.cell?_setCell_other _ _ _ _ (hne 0)).trans p0, (World.cell?_setCell_other _ _ _ _ (hne 1)).trans p1, (World.cell?_setCell_other _ _ _ _ (hne 2)).trans p2, (World.cell?_setCell_other _ _ _ _ (hne 3)).trans p3⟩
          obtain ⟨wD, hwD⟩ : ∃ wD, wC.setCell ⟨N, 1, none⟩ (.int .i64 ((k : Int) + 1)) = wD := ⟨_, rfl⟩
          rw [hwD] at S2 B2 G2 zD PD
          obtain ⟨e0, e1, e2, e3⟩ := PD.out
          have bE := (Below.refl wD.heap.size wD).alloc (Nat.le_refl _) (Obj.cells #[.string pns, .string pn, .string ⟨#[]⟩, .slice none 0 0] 26)
          have S3 := hide (S2.out.alloc (Obj.cells #[.string pns, .string pn, .string ⟨#[]⟩, .slice none 0 0] 26))
          have B3 := hide (B2.out.next bE B2.out.lt)
          have G3 := hide (grownR_below G2.out (bE.mono (by have := zD.out; omega)))
          have M3 := hide (Bx.made wD (.string pns) (.string pn) (.string ⟨#[]⟩) (.slice none 0 0) 26)
          have hMN : N < wD.heap.size := by have := zD.out; omega
          have hMR : w.heap.size < wD.heap.size := by have := zD.out; omega
          have hMP : w.heap.size + 1 < wD.heap.size := by have := zD.out; omega
          clear p0 p1 p2 p3 bE HSC HBC GC PC zC PD zD
          have HKD := hide (HI.out (f - 1) (by omega) all (k + 1) pns pn (d - 1) N B wD.heap.size dd _ (by omega) hal (by omega) (by omega) (by have := HDD.out; omega) S3.out (by omega) (by omega) M3.out HZ.out)
          obtain ⟨x, hx⟩ : ∃ x, sdK (f - 1) (d - 1) (all.drop (k + 1)) pns pn [] [] = x := ⟨_, rfl⟩
          rw [hx] at HKD HX
          clear hx S3 M3 HI
          cases x with
          | none =>
            go_wp2_with fail
            refine HKD.out.mono ?_
            rintro e w5 ⟨rfl, ⟨⟨v0, v1, v2, a5, n5, c5, m5⟩, k5, hk5, s5⟩, t5⟩
            have S5 := hide s5
            have BR5 := hide (B3.out.two t5 (by omega) (by omega))
            have G5 := hide (t5.grown G3.out (by omega))
            obtain ⟨_, m0, m1, m2, m3, mz⟩ := m5
            obtain ⟨_, d0, d1, d2, d3, dz⟩ := BR5.out
            clear s5 t5 e0 e1 e2 e3 HKD B3 G3
            go_wp2
            refine bodyPost_ret (v := .agg #[.string v0, .string v1, .string v2, .slice a5 n5 c5]) (by simp [results, Tryz.results33, go_sem, d0, d1, d2, d3]) rfl ?_
            rw [HX.out]
            refine ⟨⟨⟨_, _, _, _, _, _, rfl⟩, k5, hk5, ?_⟩, ?_⟩
            · exact (((S5.out.other (by omega) (by omega) _).other (by omega) (by omega) _).other (by omega) (by omega) _).other (by omega) (by omega) _
            · exact grownR_setB (grownR_setB (grownR_setB (grownR_setB G5.out _ (Nat.le_refl _)) _ (Nat.le_refl _)) _ (Nat.le_refl _)) _ (Nat.le_refl _)
          | some y =>
            obtain ⟨n, r⟩ := y
            go_wp2_with fail
            refine HKD.out.mono ?_
            rintro e w5 ⟨rfl, ⟨⟨a5, c5, m5, o5⟩, k5, hk5, hr5, s5⟩, t5⟩
            have S5 := hide s5
            have O5 := hide o5
            have HR5 := hide hr5
            have BR5 := hide (B3.out.two t5 (by omega) (by omega))
            have G5 := hide (t5.grown G3.out (by omega))
            have z5 := t5.size
            simp at z5
            obtain ⟨_, m0, m1, m2, m3, mz⟩ := m5
            obtain ⟨_, d0, d1, d2, d3, dz⟩ := BR5.out
            clear s5 o5 t5 hr5 e0 e1 e2 e3 HKD B3 G3
            go_wp2
            refine bodyPost_ret (v := .agg #[.string n.ns, .string n.nm, .string n.tx, .slice a5 n.ks.length c5]) (by simp [results, Tryz.results33, go_sem, d0, d1, d2, d3]) rfl ?_
            rw [HX.out]
            refine ⟨⟨⟨a5, c5, rfl, ?_⟩, k5, hk5, HR5.out, ?_⟩, ?_⟩
            · refine OwnK.wide ((((O5.out.setC _ ?_).setC _ ?_).setC _ ?_).setC _ ?_) (fun x hx => ?_)
              all_goals first | (intro x hx; have h1 := hx.1; simp at h1; omega) | (have h1 := hx.1; have h2 := hx.2; simp at h1; unfold Ivl; simp; omega)
            · exact (((S5.out.other (by omega) (by omega) _).other (by omega) (by omega) _).other (by omega) (by omega) _).other (by omega) (by omega) _
            · exact grownR_setB (grownR_setB (grownR_setB (grownR_setB G5.out _ (Nat.le_refl _)) _ (Nat.le_refl _)) _ (Nat.le_refl _)) _ (Nat.le_refl _)
      · by_cases hk3 : pk = 3
        · subst hk3
          have HX : Hid (sdN f d (all.drop k) ns = some (.mk (if ph then pns else ns) pn ⟨#[]⟩ [], all.drop (k + 1))) := by
            show sdN f d (all.drop k) ns = _
            rw [HDR.out]; exact sdN_three f d _ _ ns (by omega) (by omega) rfl
          have q1 : ((3 : Int) != 1) = true := by decide
          clear HDR hk1
          cases ph
          · skip
            rw [if_neg (by decide)] at HX
            go_enter Tryz.func33, Tryz.ntmps33
            go_wp2
            rw [HWA.out]
            go_quiet (fail)
            go_wp2
            have HSB := hide (HSA.out.drew nq)
            have HBB := hide (HBR.out.drewN nq)
            have y0 : (wA.drewN nq).cell? ⟨b, o + k * 5, none⟩ = some (.int .i64 3) := x0
            have y1 : (wA.drewN nq).cell? ⟨b, o + k * 5 + 1, none⟩ = some (.string pn) := x1
            have y2 : (wA.drewN nq).cell? ⟨b, o + k * 5 + 2, none⟩ = some (.string pns) := x2
            have y3 : (wA.drewN nq).cell? ⟨b, o + k * 5 + 3, none⟩ = some (.bool false) := x3
            have y4 : (wA.drewN nq).cell? ⟨b, o + k * 5 + 4, none⟩ = some (.string ps) := x4
            have g0 : (wA.drewN nq).cell? ⟨N, 0, none⟩ = some (.slice (some ⟨b, o, none⟩) all.length c) := h1
            have g1 : (wA.drewN nq).cell? ⟨N, 1, none⟩ = some (.int .i64 k) := hc1
            have GB := hide (show w.grownBy (wA.drewN nq) (some N) from grownR_drew (grownR_of HBA.out) nq)
            have zB : Hid ((wA.drewN nq).heap.size = w.heap.size + 1) := HZA.out
            obtain ⟨wB, hwB⟩ : ∃ wB, wA.drewN nq = wB := ⟨_, rfl⟩
            rw [hwB] at HSB HBB y0 y1 y2 y3 y4 g0 g1 GB zB ⊢
            clear hwB x0 x1 x2 x3 x4 h1 hc1 hc2 hfz HSA HBR HWA HBA HZA
            have hbl : b < wB.heap.size := by have := HSB.out.hB; have := HSB.out.lt; omega
            have hNl : N < wB.heap.size := HSB.out.lt
            have ya0 := (World.cell?_alloc_past (w := wB) (Obj.cells #[Value.int IntKind.i64 0, Value.string { data := #[] }, Value.string { data := #[] }, Value.bool false, Value.string { data := #[] }] 89) b (o + k * 5) hbl).trans y0
            have ya1 := (World.cell?_alloc_past (w := wB) (Obj.cells #[Value.int IntKind.i64 0, Value.string { data := #[] }, Value.string { data := #[] }, Value.bool false, Value.string { data := #[] }] 89) b (o + k * 5 + 1) hbl).trans y1
            have ya2 := (World.cell?_alloc_past (w := wB) (Obj.cells #[Value.int IntKind.i64 0, Value.string { data := #[] }, Value.string { data := #[] }, Value.bool false, Value.string { data := #[] }] 89) b (o + k * 5 + 2) hbl).trans y2
            have ya3 := (World.cell?_alloc_past (w := wB) (Obj.cells #[Value.int IntKind.i64 0, Value.string { data := #[] }, Value.string { data := #[] }, Value.bool false, Value.string { data := #[] }] 89) b (o + k * 5 + 3) hbl).trans y3
            have ya4 := (World.cell?_alloc_past (w := wB) (Obj.cells #[Value.int IntKind.i64 0, Value.string { data := #[] }, Value.string { data := #[] }, Value.bool false, Value.string { data := #[] }] 89) b (o + k * 5 + 4) hbl).trans y4
            have ga0 := (World.cell?_alloc_past (w := wB) (Obj.cells #[Value.int IntKind.i64 0, Value.string { data := #[] }, Value.string { data := #[] }, Value.bool false, Value.string { data := #[] }] 89) N (0) hNl).trans g0
            have ga1 := (World.cell?_alloc_past (w := wB) (Obj.cells #[Value.int IntKind.i64 0, Value.string { data := #[] }, Value.string { data := #[] }, Value.bool false, Value.string { data := #[] }] 89) N (1) hNl).trans g1
            go_region
            have HSC := hide (Sr.drew (HSB.out.alloc (Obj.cells #[.int .i64 3, .string pn, .string pns, .bool false, .string ps] 89)) 1)
            have bC : Below wB.heap.size wB ((wB.alloc (Obj.cells #[.int .i64 3, .string pn, .string pns, .bool false, .string ps] 89)).drewN 1) := below_drewN ((Below.refl _ _).alloc (Nat.le_refl _) _)
            have HBC := hide (HBB.out.next bC HBB.out.lt)
            have GC := hide (grownR_below GB.out (bC.mono (by have := zB.out; omega)))
            have PC : Hid (((wB.alloc (Obj.cells #[.int .i64 3, .string pn, .string pns, .bool false, .string ps] 89)).drewN 1).cell? ⟨w.heap.size + 1, 0, none⟩ = some (.int .i64 3) ∧ ((wB.alloc (Obj.cells #[.int .i64 3, .string pn, .string pns, .bool false, .string ps] 89)).drewN 1).cell? ⟨w.heap.size + 1, 1, none⟩ = some (.string pn) ∧ ((wB.alloc (Obj.cells #[.int .i64 3, .string pn, .string pns, .bool false, .string ps] 89)).drewN 1).cell? ⟨w.heap.size + 1, 2, none⟩ = some (.string pns) ∧ ((wB.alloc (Obj.cells #[.int .i64 3, .string pn, .string pns, .bool false, .string ps] 89)).drewN 1).cell? ⟨w.heap.size + 1, 3, none⟩ = some (.bool false)) := by
              rw [← zB.out]
              exact ⟨by simp, by simp, by simp, by simp⟩
            have zC : Hid (((wB.alloc (Obj.cells #[.int .i64 3, .string pn, .string pns, .bool false, .string ps] 89)).drewN 1).heap.size = w.heap.size + 1 + 1) := by show _ = _; simp [zB.out]
            rw [zB.out]
            obtain ⟨wC, hwC⟩ : ∃ wC, (wB.alloc (Obj.cells #[.int .i64 3, .string pn, .string pns, .bool false, .string ps] 89)).drewN 1 = wC := ⟨_, rfl⟩
            rw [hwC] at HSC HBC GC PC zC
            have hwC' : (wB.alloc (Obj.cells #[.int .i64 3, .string pn, .string pns, .bool false, .string ps] 89)).drew = wC := hwC
            rw [hwC']
            clear hwC hwC' bC y0 y1 y2 y3 y4 g0 g1 ya0 ya1 ya2 ya3 ya4 ga0 ga1 hbl hNl HSB HBB GB zB
            obtain ⟨p0, p1, p2, p3⟩ := PC.out
            have q1 := HSC.out.c1
            have qz := HSC.out.fz
            have S2 := hide (HSC.out.step (k + 1))
            have B2 := hide (HBC.out.other (b' := N) (k := 1) (.int .i64 ((k + 1 : Nat) : Int)) (by omega))
            have G2 := hide (grownR_set GC.out 1 (.int .i64 ((k + 1 : Nat) : Int)))
            have hPN : N ≠ w.heap.size + 1 := by omega
            have hkw : ((k + 1 : Nat) : Int) = (k : Int) + 1 := by simp
            rw [hkw] at S2 B2 G2
            have zD : Hid ((wC.setCell ⟨N, 1, none⟩ (.int .i64 ((k : Int) + 1))).heap.size = w.heap.size + 1 + 1) := by show _ = _; simp [zC.out]
            have PD : Hid ((wC.setCell ⟨N, 1, none⟩ (.int .i64 ((k : Int) + 1))).cell? ⟨w.heap.size + 1, 0, none⟩ = some (.int .i64 3) ∧ (wC.setCell ⟨N, 1, none⟩ (.int .i64 ((k : Int) + 1))).cell? ⟨w.heap.size + 1, 1, none⟩ = some (.string pn) ∧ (wC.setCell ⟨N, 1, none⟩ (.int .i64 ((k : Int) + 1))).cell? ⟨w.heap.size + 1, 2, none⟩ = some (.string pns) ∧ (wC.setCell ⟨N, 1, none⟩ (.int .i64 ((k : Int) + 1))).cell? ⟨w.heap.size + 1, 3, none⟩ = some (.bool false)) := by
              have hne : ∀ i, (⟨N, 1, none⟩ : Addr) ≠ ⟨w.heap.size + 1, i, none⟩ := fun i e => hPN (by have := congrArg Addr.block e; simpa using this)
              exact ⟨(World.cell?_setCell_other _ _ _ _ (hne 0)).trans p0, (World.cell?_setCell_other _ _ _ _ (hne 1)).trans p1, (World.cell?_setCell_other _ _ _ _ (hne 2)).trans p2, (World.cell?_setCell_other _ _ _ _ (hne 3)).trans p3⟩
            obtain ⟨wD, hwD⟩ : ∃ wD, wC.setCell ⟨N, 1, none⟩ (.int .i64 ((k : Int) + 1)) = wD := ⟨_, rfl⟩
            rw [hwD] at S2 B2 G2 zD PD
            obtain ⟨e0, e1, e2, e3⟩ := PD.out
            have bE := (Below.refl wD.heap.size wD).alloc (Nat.le_refl _) (Obj.cells #[.string ns, .string pn, .string ⟨#[]⟩, .slice none 0 0] 26)
            have S3 := hide (S2.out.alloc (Obj.cells #[.string ns, .string pn, .string ⟨#[]⟩, .slice none 0 0] 26))
            have B3 := hide (B2.out.next bE B2.out.lt)
            have G3 := hide (grownR_below G2.out (bE.mono (by have := zD.out; omega)))
            have M3 := hide (Bx.made wD (.string ns) (.string pn) (.string ⟨#[]⟩) (.slice none 0 0) 26)
            have hMN : N < wD.heap.size := by have := zD.out; omega
            have hMR : w.heap.size < wD.heap.size := by have := zD.out; omega
            have hMP : w.heap.size + 1 < wD.heap.size := by have := zD.out; omega
            clear p0 p1 p2 p3 bE HSC HBC GC PC zC PD zD
            obtain ⟨_, d0, d1, d2, d3, dz⟩ := B2.out
            go_wp2
            refine bodyPost_ret (v := .agg #[.string ns, .string pn, .string ⟨#[]⟩, .slice none 0 0]) (by simp [results, Tryz.results33, go_sem, d0, d1, d2, d3, hMR]) rfl ?_
            rw [HX.out]
            refine ⟨⟨⟨none, 0, rfl, .nil _ _⟩, k + 1, by omega, rfl, ?_⟩, ?_⟩
            · exact ((((S2.out.other (by omega) (by omega) _).other (by omega) (by omega) _).other (by omega) (by omega) _).other (by omega) (by omega) _).alloc _
            · exact grownR_below (grownR_setB (grownR_setB (grownR_setB (grownR_setB G2.out _ (Nat.le_refl _)) _ (Nat.le_refl _)) _ (Nat.le_refl _)) _ (Nat.le_refl _)) ((Below.refl _ _).alloc (by simp; omega) _)
          · skip
            rw [if_pos rfl] at HX
            go_enter Tryz.func33, Tryz.ntmps33
            go_wp2
            rw [HWA.out]
            go_quiet (fail)
            go_wp2
            have HSB := hide (HSA.out.drew nq)
            have HBB := hide (HBR.out.drewN nq)
            have y0 : (wA.drewN nq).cell? ⟨b, o + k * 5, none⟩ = some (.int .i64 3) := x0
            have y1 : (wA.drewN nq).cell? ⟨b, o + k * 5 + 1, none⟩ = some (.string pn) := x1
            have y2 : (wA.drewN nq).cell? ⟨b, o + k * 5 + 2, none⟩ = some (.string pns) := x2
            have y3 : (wA.drewN nq).cell? ⟨b, o + k * 5 + 3, none⟩ = some (.bool true) := x3
            have y4 : (wA.drewN nq).cell? ⟨b, o + k * 5 + 4, none⟩ = some (.string ps) := x4
            have g0 : (wA.drewN nq).cell? ⟨N, 0, none⟩ = some (.slice (some ⟨b, o, none⟩) all.length c) := h1
            have g1 : (wA.drewN nq).cell? ⟨N, 1, none⟩ = some (.int .i64 k) := hc1
            have GB := hide (show w.grownBy (wA.drewN nq) (some N) from grownR_drew (grownR_of HBA.out) nq)
            have zB : Hid ((wA.drewN nq).heap.size = w.heap.size + 1) := HZA.out
            obtain ⟨wB, hwB⟩ : ∃ wB, wA.drewN nq = wB := ⟨_, rfl⟩
            rw [hwB] at HSB HBB y0 y1 y2 y3 y4 g0 g1 GB zB ⊢
            clear hwB x0 x1 x2 x3 x4 h1 hc1 hc2 hfz HSA HBR HWA HBA HZA
            have hbl : b < wB.heap.size := by have := HSB.out.hB; have := HSB.out.lt; omega
            have hNl : N < wB.heap.size := HSB.out.lt
            have ya0 := (World.cell?_alloc_past (w := wB) (Obj.cells #[Value.int IntKind.i64 0, Value.string { data := #[] }, Value.string { data := #[] }, Value.bool false, Value.string { data := #[] }] 89) b (o + k * 5) hbl).trans y0
            have ya1 := (World.cell?_alloc_past (w := wB) (Obj.cells #[Value.int IntKind.i64 0, Value.string { data := #[] }, Value.string { data := #[] }, Value.bool false, Value.string { data := #[] }] 89) b (o + k * 5 + 1) hbl).trans y1
            have ya2 := (World.cell?_alloc_past (w := wB) (Obj.cells #[Value.int IntKind.i64 0, Value.string { data := #[] }, Value.string { data := #[] }, Value.bool false, Value.string { data := #[] }] 89) b (o + k * 5 + 2) hbl).trans y2
            have ya3 := (World.cell?_alloc_past (w := wB) (Obj.cells #[Value.int IntKind.i64 0, Value.string { data := #[] }, Value.string { data := #[] }, Value.bool false, Value.string { data := #[] }] 89) b (o + k * 5 + 3) hbl).trans y3
            have ya4 := (World.cell?_alloc_past (w := wB) (Obj.cells #[Value.int IntKind.i64 0, Value.string { data := #[] }, Value.string { data := #[] }, Value.bool false, Value.string { data := #[] }] 89) b (o + k * 5 + 4) hbl).trans y4
            have ga0 := (World.cell?_alloc_past (w := wB) (Obj.cells #[Value.int IntKind.i64 0, Value.string { data := #[] }, Value.string { data := #[] }, Value.bool false, Value.string { data := #[] }] 89) N (0) hNl).trans g0
            have ga1 := (World.cell?_alloc_past (w := wB) (Obj.cells #[Value.int IntKind.i64 0, Value.string { data := #[] }, Value.string { data := #[] }, Value.bool false, Value.string { data := #[] }] 89) N (1) hNl).trans g1
            go_region
            have HSC := hide (Sr.drew (HSB.out.alloc (Obj.cells #[.int .i64 3, .string pn, .string pns, .bool true, .string ps] 89)) 1)
            have bC : Below wB.heap.size wB ((wB.alloc (Obj.cells #[.int .i64 3, .string pn, .string pns, .bool true, .string ps] 89)).drewN 1) := below_drewN ((Below.refl _ _).alloc (Nat.le_refl _) _)
            have HBC := hide (HBB.out.next bC HBB.out.lt)
            have GC := hide (grownR_below GB.out (bC.mono (by have := zB.out; omega)))
            have PC : Hid (((wB.alloc (Obj.cells #[.int .i64 3, .string pn, .string pns, .bool true, .string ps] 89)).drewN 1).cell? ⟨w.heap.size + 1, 0, none⟩ = some (.int .i64 3) ∧ ((wB.alloc (Obj.cells #[.int .i64 3, .string pn, .string pns, .bool true, .string ps] 89)).drewN 1).cell? ⟨w.heap.size + 1, 1, none⟩ = some (.string pn) ∧ ((wB.alloc (Obj.cells #[.int .i64 3, .string pn, .string pns, .bool true, .string ps] 89)).drewN 1).cell? ⟨w.heap.size + 1, 2, none⟩ = some (.string pns) ∧ ((wB.alloc (Obj.cells #[.int .i64 3, .string pn, .string pns, .bool true, .string ps] 89)).drewN 1).cell? ⟨w.heap.size + 1, 3, none⟩ = some (.bool true)) := by
              rw [← zB.out]
              exact ⟨by simp, by simp, by simp, by simp⟩
            have zC : Hid (((wB.alloc (Obj.cells #[.int .i64 3, .string pn, .string pns, .bool true, .string ps] 89)).drewN 1).heap.size = w.heap.size + 1 + 1) := by show _ = _; simp [zB.out]
            rw [zB.out]
            obtain ⟨wC, hwC⟩ : ∃ wC, (wB.alloc (Obj.cells #[.int .i64 3, .string pn, .string pns, .bool true, .string ps] 89)).drewN 1 = wC := ⟨_, rfl⟩
            rw [hwC] at HSC HBC GC PC zC
            have hwC' : (wB.alloc (Obj.cells #[.int .i64 3, .string pn, .string pns, .bool true, .string ps] 89)).drew = wC := hwC
            rw [hwC']
            clear hwC hwC' bC y0 y1 y2 y3 y4 g0 g1 ya0 ya1 ya2 ya3 ya4 ga0 ga1 hbl hNl HSB HBB GB zB
            obtain ⟨p0, p1, p2, p3⟩ := PC.out
            have q1 := HSC.out.c1
            have qz := HSC.out.fz
            have S2 := hide (HSC.out.step (k + 1))
            have B2 := hide (HBC.out.other (b' := N) (k := 1) (.int .i64 ((k + 1 : Nat) : Int)) (by omega))
            have G2 := hide (grownR_set GC.out 1 (.int .i64 ((k + 1 : Nat) : Int)))
            have hPN : N ≠ w.heap.size + 1 := by omega
            have hkw : ((k + 1 : Nat) : Int) = (k : Int) + 1 := by simp
            rw [hkw] at S2 B2 G2
            have zD : Hid ((wC.setCell ⟨N, 1, none⟩ (.int .i64 ((k : Int) + 1))).heap.size = w.heap.size + 1 + 1) := by show _ = _; simp [zC.out]
            have PD : Hid ((wC.setCell ⟨N, 1, none⟩ (.int .i64 ((k : Int) + 1))).cell? ⟨w.heap.size + 1, 0, none⟩ = some (.int .i64 3) ∧ (wC.setCell ⟨N, 1, none⟩ (.int .i64 ((k : Int) + 1))).cell? ⟨w.heap.size + 1, 1, none⟩ = some (.string pn) ∧ (wC.setCell ⟨N, 1, none⟩ (.int .i64 ((k : Int) + 1))).cell? ⟨w.heap.size + 1, 2, none⟩ = some (.string pns) ∧ (wC.setCell ⟨N, 1, none⟩ (.int .i64 ((k : Int) + 1))).cell? ⟨w.heap.size + 1, 3, none⟩ = some (.bool true)) := by
              have hne : ∀ i, (⟨N, 1, none⟩ : Addr) ≠ ⟨w.heap.size + 1, i, none⟩ := fun i e => hPN (by have := congrArg Addr.block e; simpa using this)
              exact ⟨(World.cell?_setCell_other _ _ _ _ (hne 0)).trans p0, (World.cell?_setCell_other _ _ _ _ (hne 1)).trans p1, (World.cell?_setCell_other _ _ _ _ (hne 2)).trans p2, (World.cell?_setCell_other _ _ _ _ (hne 3)).trans p3⟩
            obtain ⟨wD, hwD⟩ : ∃ wD, wC.setCell ⟨N, 1, none⟩ (.int .i64 ((k : Int) + 1)) = wD := ⟨_, rfl⟩
            rw [hwD] at S2 B2 G2 zD PD
            obtain ⟨e0, e1, e2, e3⟩ := PD.out
            have bE := (Below.refl wD.heap.size wD).alloc (Nat.le_refl _) (Obj.cells #[.string pns, .string pn, .string ⟨#[]⟩, .slice none 0 0] 26)
            have S3 := hide (S2.out.alloc (Obj.cells #[.string pns, .string pn, .string ⟨#[]⟩, .slice none 0 0] 26))
            have B3 := hide (B2.out.next bE B2.out.lt)
            have G3 := hide (grownR_below G2.out (bE.mono (by have := zD.out; omega)))
            have M3 := hide (Bx.made wD (.string pns) (.string pn) (.string ⟨#[]⟩) (.slice none 0 0) 26)
            have hMN : N < wD.heap.size := by have := zD.out; omega
            have hMR : w.heap.size < wD.heap.size := by have := zD.out; omega
            have hMP : w.heap.size + 1 < wD.heap.size := by have := zD.out; omega
            clear p0 p1 p2 p3 bE HSC HBC GC PC zC PD zD
            obtain ⟨_, d0, d1, d2, d3, dz⟩ := B2.out
            go_wp2
            refine bodyPost_ret (v := .agg #[.string pns, .string pn, .string ⟨#[]⟩, .slice none 0 0]) (by simp [results, Tryz.results33, go_sem, d0, d1, d2, d3, hMR]) rfl ?_
            rw [HX.out]
            refine ⟨⟨⟨none, 0, rfl, .nil _ _⟩, k + 1, by omega, rfl, ?_⟩, ?_⟩
            · exact ((((S2.out.other (by omega) (by omega) _).other (by omega) (by omega) _).other (by omega) (by omega) _).other (by omega) (by omega) _).alloc _
            · exact grownR_below (grownR_setB (grownR_setB (grownR_setB (grownR_setB G2.out _ (Nat.le_refl _)) _ (Nat.le_refl _)) _ (Nat.le_refl _)) _ (Nat.le_refl _)) ((Below.refl _ _).alloc (by simp; omega) _)
        · have HN : Hid (sdN f d (all.drop k) ns = none) := by show sdN f d _ _ = none; rw [HDR.out]; exact sdN_bad f d _ _ ns hk3 hk1
          have q1 : (pk != 1) = true := by simp [hk1]
          have q3 : (pk != 3) = true := by simp [hk3]
          clear hk1 hk3 HDR
          go_enter Tryz.func33, Tryz.ntmps33
          go_wp2
          rw [HWA.out]
          go_quiet (fail)
          have c2' : (wA.drewN nq).cell? ⟨N, 2, none⟩ = some (.bool false) := hc2
          have fz' : ∀ j, (wA.drewN nq).frozen? ⟨N, j, none⟩ = false := hfz
          have S1 := hide ((HSA.out.drew nq).bad true)
          have B1 := hide ((HBR.out.drewN nq).other (b' := N) (k := 2) (.bool true) (by omega))
          have G1 := hide (grownR_set (show w.grownBy (wA.drewN nq) (some N) from grownR_drew (grownR_of HBA.out) nq) 2 (.bool true))
          obtain ⟨_, d0, d1, d2, d3, dz⟩ := B1.out
          go_wp2
          refine bodyPost_ret (v := .agg #[.string ⟨#[]⟩, .string ⟨#[]⟩, .string ⟨#[]⟩, .slice none 0 0]) (by simp [results, Tryz.results33, go_sem, d0, d1, d2, d3]) rfl ?_
          rw [HN.out]
          refine ⟨⟨⟨_, _, _, _, _, _, rfl⟩, k, hk, ?_⟩, ?_⟩
          · exact (((S1.out.other (by omega) (by omega) _).other (by omega) (by omega) _).other (by omega) (by omega) _).other (by omega) (by omega) _
          · exact grownR_setB (grownR_setB (grownR_setB (grownR_setB G1.out _ (Nat.le_refl _)) _ (Nat.le_refl _)) _ (Nat.le_refl _)) _ (Nat.le_refl _)
    · have HN : Hid (sdN f d (all.drop k) ns = none) := by show sdN f d _ _ = none; rw [List.drop_of_length_le (by omega)]; exact sdN_end f d ns
      have hge : decide (all.length ≤ k) = true := decide_eq_true (by omega)
      have hge' : all.length ≤ k := by omega
      clear h2 hlt
      go_enter Tryz.func33, Tryz.ntmps33
      go_wp2
      rw [HWA.out]
      go_quiet (fail)
      have c2' : (wA.drewN nq).cell? ⟨N, 2, none⟩ = some (.bool false) := hc2
      have fz' : ∀ j, (wA.drewN nq).frozen? ⟨N, j, none⟩ = false := hfz
      have S1 := hide ((HSA.out.drew nq).bad true)
      have B1 := hide ((HBR.out.drewN nq).other (b' := N) (k := 2) (.bool true) (by omega))
      have G1 := hide (grownR_set (show w.grownBy (wA.drewN nq) (some N) from grownR_drew (grownR_of HBA.out) nq) 2 (.bool true))
      obtain ⟨_, d0, d1, d2, d3, dz⟩ := B1.out
      go_wp2
      refine bodyPost_ret (v := .agg #[.string ⟨#[]⟩, .string ⟨#[]⟩, .string ⟨#[]⟩, .slice none 0 0]) (by simp [results, Tryz.results33, go_sem, d0, d1, d2, d3]) rfl ?_
      rw [HN.out]
      refine ⟨⟨⟨_, _, _, _, _, _, rfl⟩, k, hk, ?_⟩, ?_⟩
      · exact (((S1.out.other (by omega) (by omega) _).other (by omega) (by omega) _).other (by omega) (by omega) _).other (by omega) (by omega) _
      · exact grownR_setB (grownR_setB (grownR_setB (grownR_setB G1.out _ (Nat.le_refl _)) _ (Nat.le_refl _)) _ (Nat.le_refl _)) _ (Nat.le_refl _)
end Go.Proofs.YtccehdlgpbeijaaGreatDoor
