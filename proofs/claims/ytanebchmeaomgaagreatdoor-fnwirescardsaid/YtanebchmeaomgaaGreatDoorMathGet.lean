/-
  The draws of wires, and of bytes for them.
  Nothing cut into parts, as the laws cut it: one part, of nothing.
  Rows of cells that may be written.
  A row of bytes that the call made: its cells may be stored to.
  Bytes that the call made, or none.
  What Joined does: all pieces, one behind the other; the specification's, too.
  Plain facts on where a head ends: no program in sight.
  Bytes as numbers.
  Plain facts on numbers read of their digits: no program in sight.
  Plain facts on numbers read of their digits to the base 16: no program in sight.
  Plain facts on bodies in pieces: no program in sight.
  Plain facts on how a request is read: no program in sight.
-/
import Derived.Test.YtanebchmeaomgaaGreatDoorDrawCut
import Derived.Deep.RegionHeld3
import Derived.Deep.RegionWith
import Derived.Test.YtanebchmeaomgaaGreatDoorCut
import Derived.Test.YtanebchmeaomgaaGreatDoorHeads
import Derived.Test.YtanebchmeaomgaaGreatDoorStepByts
import Derived.Test.YtanebchmeaomgaaGreatDoorShelf
import Derived.Lib.Index
import Derived.Lib.IndexMore
import Derived.Lib.ConvBytes
import Derived.Lib.SlBytesConst
import Derived.Lib.IndexBytes
import Derived.Test.YtanebchmeaomgaaGreatDoorPutHead
import Derived.Lib.Atoi
import Derived.Test.YtanebchmeaomgaaGreatDoorSpecSm
namespace Go.Proofs.YtanebchmeaomgaaGreatDoor
open Go.RowKit M
set_option linter.unusedVariables false

/-- What a cell holds. -/
def valAtW (w : World) (p : Addr) : Value := (w.cell? p).getD .nilFunc
theorem valAtW_of {w : World} {p : Addr} (h : (w.cell? p).isSome = true) : w.cell? p = some (valAtW w p) := by
  unfold valAtW
  obtain ⟨v, hv⟩ := Option.isSome_iff_exists.1 h
  rw [hv]; rfl
theorem some_setW {w : World} {p q : Addr} {x : Value} (h : (w.cell? q).isSome = true) : ((w.setCell p x).cell? q).isSome = true := by
  by_cases e : p = q
  · subst e
    obtain ⟨u, hu⟩ := Option.isSome_iff_exists.1 h
    rw [World.cell?_setCell_same _ _ _ hu]; rfl
  · rw [World.cell?_setCell_other _ _ _ _ e]; exact h
theorem put2W {w : World} {b r : Nat} {x0 x1 u0 u1 v0 v1 : Value} (hne : b ≠ r)
    (h : w.cell? ⟨b, 0, none⟩ = some v0 ∧ w.cell? ⟨b, 1, none⟩ = some v1 ∧ w.cell? ⟨r, 0, none⟩ = some u0 ∧ w.cell? ⟨r, 1, none⟩ = some u1 ∧ w.frozen? ⟨r, 0, none⟩ = false ∧ w.frozen? ⟨r, 1, none⟩ = false) :
    ((w.setCell ⟨r, 0, none⟩ x0).setCell ⟨r, 1, none⟩ x1).cell? ⟨b, 0, none⟩ = some v0 ∧ ((w.setCell ⟨r, 0, none⟩ x0).setCell ⟨r, 1, none⟩ x1).cell? ⟨b, 1, none⟩ = some v1 ∧ ((w.setCell ⟨r, 0, none⟩ x0).setCell ⟨r, 1, none⟩ x1).cell? ⟨r, 0, none⟩ = some (valAtW ((w.setCell ⟨r, 0, none⟩ x0).setCell ⟨r, 1, none⟩ x1) ⟨r, 0, none⟩) ∧ ((w.setCell ⟨r, 0, none⟩ x0).setCell ⟨r, 1, none⟩ x1).cell? ⟨r, 1, none⟩ = some (valAtW ((w.setCell ⟨r, 0, none⟩ x0).setCell ⟨r, 1, none⟩ x1) ⟨r, 1, none⟩) ∧ ((w.setCell ⟨r, 0, none⟩ x0).setCell ⟨r, 1, none⟩ x1).frozen? ⟨r, 0, none⟩ = false ∧ ((w.setCell ⟨r, 0, none⟩ x0).setCell ⟨r, 1, none⟩ x1).frozen? ⟨r, 1, none⟩ = false := by
  obtain ⟨h0, h1, h2, h3, h4, h5⟩ := h
  have hn : ∀ (o i : Nat) (x : Value) (w : World), (w.setCell ⟨r, i, none⟩ x).cell? ⟨b, o, none⟩ = w.cell? ⟨b, o, none⟩ := fun o i x w => World.cell?_setCell_other _ _ _ _ (fun e => hne (by have := congrArg Addr.block e; simp at this; exact this.symm))
  refine ⟨?_, ?_, valAtW_of ?_, valAtW_of ?_, ?_, ?_⟩
  · rw [hn, hn]; exact h0
  · rw [hn, hn]; exact h1
  · exact some_setW (some_setW (by rw [h2]; rfl))
  · exact some_setW (some_setW (by rw [h3]; rfl))
  · rw [World.frozen?_setCell, World.frozen?_setCell]; exact h4
  · rw [World.frozen?_setCell, World.frozen?_setCell]; exact h5

/-- A box of two cells. -/
structure Box2 (w : World) (b : Nat) (u v : Value) : Prop where
  lt : b < w.heap.size
  c0 : w.cell? ⟨b, 0, none⟩ = some u
  c1 : w.cell? ⟨b, 1, none⟩ = some v
  f0 : w.frozen? ⟨b, 0, none⟩ = false
  f1 : w.frozen? ⟨b, 1, none⟩ = false
theorem Box2.made (w : World) (u v : Value) (T : TypeId) : Box2 (w.alloc (Obj.cells #[u, v] T)) w.heap.size u v := ⟨by simp, by simp, by simp, by simp, by simp⟩
theorem Box2.of {w w' : World} {b : Nat} {u v : Value} (h : Box2 w b u v) (hs : w.heap.size ≤ w'.heap.size) (hb : w'.heap[b]? = w.heap[b]?) : Box2 w' b u v :=
  ⟨Nat.lt_of_lt_of_le h.lt hs, (World.cell?_of_block (a := ⟨b, 0, none⟩) hb).trans h.c0, (World.cell?_of_block (a := ⟨b, 1, none⟩) hb).trans h.c1, by have := h.f0; simp only [World.frozen?, hb] at *; exact this, by have := h.f1; simp only [World.frozen?, hb] at *; exact this⟩
theorem Box2.grown {w w' : World} {b N : Nat} {u v : Value} (h : Box2 w b u v) (hg : w.grownBy w' (some N)) (hN : b ≠ N) : Box2 w' b u v := h.of hg.size (hg.block b h.lt (by simp; exact hN))
theorem Box2.set1 {w : World} {b : Nat} {u v : Value} (h : Box2 w b u v) (x : Value) : Box2 (w.setCell ⟨b, 1, none⟩ x) b u x :=
  ⟨by simpa using h.lt, by rw [World.cell?_setCell_other _ _ _ _ (fun e => by cases e)]; exact h.c0, World.cell?_setCell_same _ _ _ h.c1, by rw [World.frozen?_setCell]; exact h.f0, by rw [World.frozen?_setCell]; exact h.f1⟩
theorem Box2.other {w : World} {b : Nat} {u v : Value} (h : Box2 w b u v) (p : Addr) (x : Value) (hp : p.block ≠ b) : Box2 (w.setCell p x) b u v := h.of (by simp) (Below.heap_setCell w p x b (fun e => hp e.symm))

/-- What is handed back: a wire and bytes. -/
def RetW (w' : World) (e : Ending) : Prop := ∃ (a1 : Option Addr) (l : List UInt8) (c1 : Nat) (bad : Int) (a2 : Option Addr) (m : List UInt8) (c2 : Nat), e = .returned (.tuple #[.agg #[.slice a1 l.length c1, .int .i64 bad], .slice a2 m.length c2]) ∧ Byt w' w'.heap.size a1 l ∧ Byt w' w'.heap.size a2 m ∧ l.length + m.length ≤ 12000

set_option maxRecDepth 100000 in
set_option maxHeartbeats 8000000 in
theorem drawFeed_any {w : World} {B : Nat} {a : Option Addr} {len : Nat} {zs : List Int} (h : CodeIn w B a len zs) (hB : B ≤ w.heap.size) (cap : Nat) :
    Calls Tryz.prog 12 #[.slice a len cap] w fun e w' => RetW w' e ∧ Below w.heap.size w w' := by
  have H := hide h
  clear h
  have hb0 : Below w.heap.size w (w.alloc (Obj.cells #[Value.slice none 0 0, Value.int .i64 0] 27)) := (Below.refl _ _).alloc (Nat.le_refl _) _
  have HZ0 : Hid ((w.alloc (Obj.cells #[Value.slice none 0 0, Value.int .i64 0] 27)).heap.size = w.heap.size + 1) := (by simp : _ = _)
  have HN := hide (newDX (H.out.below (hb0.mono hB)) cap)
  have HR0 := hide (Box2.made w (.slice none 0 0) (.int .i64 0) 27)
  have HB0 := hide hb0
  clear hb0 H
  go_enter Tryz.func12, Tryz.ntmps12
  go_wp2_with fail
  refine HN.out.mono ?_
  rintro e w1 ⟨rfl, hd1, b1⟩
  have z1 := b1.size
  rw [HZ0.out] at hd1 b1 z1
  have hlt1 := hd1.lt
  have R1 := hide (HR0.out.of b1.size (b1.block w.heap.size (by omega)))
  have C1 := hide (HB0.out.trans (b1.mono (by omega)))
  have D1 := hide hd1
  clear hd1 b1 HN HR0 HB0
  go_wp2_with fail
  refine (l6Bytes_any D1.out).mono ?_
  rintro e w2 ⟨⟨v, rfl, lb, hl, hy⟩, hd2, hg2⟩
  obtain ⟨gb, cb, rfl, hy'⟩ := hy.slice
  have hbd := hy'.bd
  have z2 := hg2.size
  have R2 := hide (R1.out.grown hg2 (by omega))
  have C2 : Hid (Below w.heap.size w w2) := C1.out.trans ⟨hg2.os, hg2.tape, hg2.output, hg2.size, fun k hk => hg2.block k (by omega) (by simp; omega)⟩
  have Y2 := hide hy'
  have D2 := hide hd2
  clear hd2 hg2 hy hy' D1 R1 C1
  go_wp2_with fail
  refine (l1BelowX D2.out ((lb.length : Int) + 1) (by omega) (by omega)).mono ?_
  rintro e w3 ⟨⟨k, rfl, hk⟩, hd3, hg3⟩
  have z3 := hg3.size
  have hkl : k ≤ lb.length := by omega
  have R3 := hide (R2.out.grown hg3 (by omega))
  have C3 : Hid (Below w.heap.size w w3) := C2.out.trans ⟨hg3.os, hg3.tape, hg3.output, hg3.size, fun k hk => hg3.block k (by omega) (by simp; omega)⟩
  have Y3 := hide (Y2.out.same (hg3.block gb (by omega) (by simp; omega)))
  have D3 := hide hd3
  have hyb := Y3.out.bytAt (C := w3.heap.size) (by omega)
  have HYB := hide hyb
  have hMt : (lb.take k).length = k := by rw [List.length_take]; omega
  have hki : (k : Int) ≤ (cb : Int) := by omega
  have hkj : (k : Int) ≤ (lb.length : Int) := by omega
  have HYT := hide ((HYB.out.take k).below ((Below.refl w3.heap.size w3).alloc (Nat.le_refl _) (Obj.cells #[] 5)) (Nat.le_refl _))
  clear hd3 hg3 hyb hk D2 R2 C2 Y2
  go_wp2_with (at_builtin; refine wp_append_any rfl _ _ rfl w3.heap.size _ [] rfl (OwnY.bare w3) (some ⟨gb, 0, none⟩) (lb.take k) cb w3.heap.size (by rw [hMt]; rfl) HYT.out ?_ ?_ ?_)
  · rw [hMt]; simp; omega
  · simp
  intro v4 w4 ho4 hg4 _
  have b4 : Below w3.heap.size w3 w4 := ((Below.refl _ _).alloc (Nat.le_refl _) _).trans ⟨hg4.os, hg4.tape, hg4.output, hg4.size, fun k hk => hg4.block k (by simp; omega) (by simp [Value.ownBlock]; omega)⟩
  obtain ⟨g4, c4, e4, ho4'⟩ := ho4.slice
  rw [hMt] at e4 ho4'
  subst e4
  have hbd4 := ho4'.bd
  have z4 := b4.size
  have R4 := hide (R3.out.of z4 (b4.block w.heap.size (by omega)))
  have C4 := hide (C3.out.trans (b4.mono C3.out.size))
  have D4 := hide (D3.out.other z4 (fun k hk => b4.block k (by omega)))
  have YB4 := hide (HYB.out.below b4 (Nat.le_refl _))
  have Y4 := hide (ho4'.bytAt (C := w4.heap.size) (by omega))
  have BX := hide (Box2.made w4 (.slice (some ⟨g4, 0, none⟩) k c4) (.int .i64 0) 27)
  have BA := hide ((Below.refl w4.heap.size w4).alloc (Nat.le_refl _) (Obj.cells #[.slice (some ⟨g4, 0, none⟩) k c4, .int .i64 0] 27))
  have R4b := hide (R4.out.of BA.out.size (BA.out.block w.heap.size (by omega)))
  have C4b := hide (C4.out.trans (BA.out.mono C4.out.size))
  have D4b := hide (D4.out.alloc (Obj.cells #[.slice (some ⟨g4, 0, none⟩) k c4, .int .i64 0] 27))
  have HZ4 : Hid ((w4.alloc (Obj.cells #[.slice (some ⟨g4, 0, none⟩) k c4, .int .i64 0] 27)).heap.size = w4.heap.size + 1) := (by simp : _ = _)
  clear ho4 hg4 ho4' b4 R3 C3 D3 HYT HYB R4 C4 D4
  go_wp2_with fail
  refine (l1OnceX D4b.out 8 (by decide) (by decide)).mono ?_
  rintro e w5 ⟨⟨b, rfl⟩, hd5, hg5⟩
  have z5 := hg5.size
  rw [HZ4.out] at z5
  have R5 := hide (R4b.out.grown hg5 (by omega))
  have X5 := hide (BX.out.grown hg5 (by omega))
  have C5 : Hid (Below w.heap.size w w5) := C4b.out.trans ⟨hg5.os, hg5.tape, hg5.output, hg5.size, fun k hk => hg5.block k (by have := HZ4.out; omega) (by simp; omega)⟩
  have YB5 := hide ((YB4.out.below BA.out z4).grown hg5 (by omega) (by have := HZ4.out; omega))
  have Y5 := hide ((Y4.out.below BA.out (Nat.le_refl _)).grown hg5 (by omega) (by have := HZ4.out; omega))
  have D5 := hide hd5
  clear hd5 hg5 R4b BX C4b YB4 Y4 D4b BA
  have HFIN : Hid (∀ (W : World) (bad : Int), Box2 W w.heap.size (.slice none 0 0) (.int .i64 0) → Byt W w4.heap.size (some ⟨g4, 0, none⟩) (lb.take k) → Byt W w3.heap.size (some ⟨gb, 0, none⟩) lb → Below w.heap.size w W → w4.heap.size < W.heap.size →
      ∀ a2, (0 < (lb.drop k).length → a2 = some ⟨gb, k, none⟩) → RetW ((W.setCell ⟨w.heap.size, 0, none⟩ (.slice (some ⟨g4, 0, none⟩) k c4)).setCell ⟨w.heap.size, 1, none⟩ (.int .i64 bad)) (.returned (.tuple #[.agg #[.slice (some ⟨g4, 0, none⟩) k c4, .int .i64 bad], .slice a2 (lb.length - k) (cb - k)])) ∧ Below w.heap.size w ((W.setCell ⟨w.heap.size, 0, none⟩ (.slice (some ⟨g4, 0, none⟩) k c4)).setCell ⟨w.heap.size, 1, none⟩ (.int .i64 bad))) := fun W bad hr h4 hb hw hlt a2 ha2 => by
    have hdl : (lb.drop k).length = lb.length - k := List.length_drop
    refine ⟨⟨some ⟨g4, 0, none⟩, lb.take k, c4, bad, a2, lb.drop k, cb - k, by rw [hMt, hdl], ?_, ?_, by rw [hMt, hdl]; omega⟩, (hw.setCell (Nat.le_refl _) _).setCell (Nat.le_refl _) _⟩
    · intro h0
      obtain ⟨b', o', e, hb', hc⟩ := h4 h0
      cases e
      refine ⟨g4, 0, rfl, by simp; omega, fun j hj => ?_⟩
      rw [World.cell?_setCell_other _ _ _ _ (fun e => by have := congrArg Addr.block e; simp only at this; omega), World.cell?_setCell_other _ _ _ _ (fun e => by have := congrArg Addr.block e; simp only at this; omega)]
      exact hc j hj
    · intro h0
      have hd := (hb.drop k) h0
      obtain ⟨b', o', e, hb', hc⟩ := hd
      cases e
      refine ⟨gb, k, ha2 h0, by simp; omega, fun j hj => ?_⟩
      rw [World.cell?_setCell_other _ _ _ _ (fun e => by have := congrArg Addr.block e; simp only at this; omega), World.cell?_setCell_other _ _ _ _ (fun e => by have := congrArg Addr.block e; simp only at this; omega)]
      have := hc j hj
      rw [Nat.zero_add] at this
      exact this
  cases b
  · by_cases hcM : cb = k
    · have hcM2 : k = cb := hcM.symm
      clear hcM
      subst hcM2
      have HF9 := hide (HFIN.out w5 0 R5.out Y5.out YB5.out C5.out (by show w4.heap.size < w5.heap.size; omega) (some ⟨gb, 0, none⟩) (fun h0 => absurd h0 (by rw [List.length_drop]; omega)))
      have e9 : lb.length - k = 0 := by omega
      rw [e9, Nat.sub_self] at HF9
      clear e9
      have q0 : w5.cell? ⟨w4.heap.size, 0, none⟩ = some (.slice (some ⟨g4, 0, none⟩) k c4) := X5.out.c0
      have q1 : w5.cell? ⟨w4.heap.size, 1, none⟩ = some (.int .i64 0) := X5.out.c1
      have q2 : w5.cell? ⟨w.heap.size, 0, none⟩ = some (.slice none 0 0) := R5.out.c0
      have q3 : w5.cell? ⟨w.heap.size, 1, none⟩ = some (.int .i64 0) := R5.out.c1
      have q4 : w5.frozen? ⟨w.heap.size, 0, none⟩ = false := R5.out.f0
      have q5 : w5.frozen? ⟨w.heap.size, 1, none⟩ = false := R5.out.f1
      have hne : w4.heap.size ≠ w.heap.size := by omega
      go_wp2
      go_region_with (fail)
      all_goals
        go_wp2
        refine bodyPost_ret (v := .tuple #[.agg #[.slice (some ⟨g4, 0, none⟩) k c4, .int .i64 0], .slice (some ⟨gb, 0, none⟩) 0 0]) (by simp [results, Tryz.results12, go_sem, q2, q3]) rfl ⟨HF9.out.1, below_drew0 HF9.out.2⟩
    · skip
      have HF9 := hide (HFIN.out w5 0 R5.out Y5.out YB5.out C5.out (by show w4.heap.size < w5.heap.size; omega) (some ⟨gb, k, none⟩) (fun _ => rfl))
      have q0 : w5.cell? ⟨w4.heap.size, 0, none⟩ = some (.slice (some ⟨g4, 0, none⟩) k c4) := X5.out.c0
      have q1 : w5.cell? ⟨w4.heap.size, 1, none⟩ = some (.int .i64 0) := X5.out.c1
      have q2 : w5.cell? ⟨w.heap.size, 0, none⟩ = some (.slice none 0 0) := R5.out.c0
      have q3 : w5.cell? ⟨w.heap.size, 1, none⟩ = some (.int .i64 0) := R5.out.c1
      have q4 : w5.frozen? ⟨w.heap.size, 0, none⟩ = false := R5.out.f0
      have q5 : w5.frozen? ⟨w.heap.size, 1, none⟩ = false := R5.out.f1
      have hne : w4.heap.size ≠ w.heap.size := by omega
      go_wp2
      go_region_with (fail)
      all_goals
        go_wp2
        refine bodyPost_ret (v := .tuple #[.agg #[.slice (some ⟨g4, 0, none⟩) k c4, .int .i64 0], .slice (some ⟨gb, k, none⟩) (lb.length - k) (cb - k)]) (by simp [results, Tryz.results12, go_sem, q2, q3]) rfl ⟨HF9.out.1, below_drew0 HF9.out.2⟩
  · go_wp2_with fail
    refine (intNewIn D5.out [400, 1, -1] _ _ 3 _ rfl rfl rfl (by decide) (by decide) (fun _ => True) (fun _ _ => trivial)).mono ?_
    rintro e w6 ⟨⟨x, rfl, _⟩, hd6, hg6⟩
    have z6 := hg6.size
    have R6 := hide (R5.out.grown hg6 (by omega))
    have X6 := hide (X5.out.grown hg6 (by omega))
    have C6 : Hid (Below w.heap.size w w6) := C5.out.trans ⟨hg6.os, hg6.tape, hg6.output, hg6.size, fun k hk => hg6.block k (by omega) (by simp; omega)⟩
    have YB6 := hide (YB5.out.grown hg6 (by omega) (by omega))
    have Y6 := hide (Y5.out.grown hg6 (by omega) (by omega))
    have s0 := X6.out.c1
    have s1 := X6.out.f1
    have X7 := hide (X6.out.set1 (.int .i64 x))
    have R7 := hide (R6.out.other ⟨w4.heap.size, 1, none⟩ (.int .i64 x) (by simp; omega))
    have C7 := hide (C6.out.setCell (p := ⟨w4.heap.size, 1, none⟩) (by simp; omega) (.int .i64 x))
    have YB7 := hide (YB6.out.below ((Below.refl w3.heap.size w6).setCell (p := ⟨w4.heap.size, 1, none⟩) (by simp; omega) (.int .i64 x)) (Nat.le_refl _))
    have Y7 := hide (Y6.out.below ((Below.refl w4.heap.size w6).setCell (p := ⟨w4.heap.size, 1, none⟩) (by simp) (.int .i64 x)) (Nat.le_refl _))
    have z7 : Hid (w4.heap.size < (w6.setCell ⟨w4.heap.size, 1, none⟩ (.int .i64 x)).heap.size) := (by simp; omega : w4.heap.size < (w6.setCell ⟨w4.heap.size, 1, none⟩ (.int .i64 x)).heap.size)
    clear hd6 hg6 R5 X5 C5 YB5 Y5 D5
    by_cases hcM : cb = k
    · have hcM2 : k = cb := hcM.symm
      clear hcM
      subst hcM2
      have HF9 := hide (HFIN.out (w6.setCell ⟨w4.heap.size, 1, none⟩ (.int .i64 x)) x R7.out Y7.out YB7.out C7.out z7.out (some ⟨gb, 0, none⟩) (fun h0 => absurd h0 (by rw [List.length_drop]; omega)))
      have e9 : lb.length - k = 0 := by omega
      rw [e9, Nat.sub_self] at HF9
      clear e9
      have q0 : (w6.setCell ⟨w4.heap.size, 1, none⟩ (.int .i64 x)).cell? ⟨w4.heap.size, 0, none⟩ = some (.slice (some ⟨g4, 0, none⟩) k c4) := X7.out.c0
      have q1 : (w6.setCell ⟨w4.heap.size, 1, none⟩ (.int .i64 x)).cell? ⟨w4.heap.size, 1, none⟩ = some (.int .i64 x) := X7.out.c1
      have q2 : (w6.setCell ⟨w4.heap.size, 1, none⟩ (.int .i64 x)).cell? ⟨w.heap.size, 0, none⟩ = some (.slice none 0 0) := R7.out.c0
      have q3 : (w6.setCell ⟨w4.heap.size, 1, none⟩ (.int .i64 x)).cell? ⟨w.heap.size, 1, none⟩ = some (.int .i64 0) := R7.out.c1
      have q4 : (w6.setCell ⟨w4.heap.size, 1, none⟩ (.int .i64 x)).frozen? ⟨w.heap.size, 0, none⟩ = false := R7.out.f0
      have q5 : (w6.setCell ⟨w4.heap.size, 1, none⟩ (.int .i64 x)).frozen? ⟨w.heap.size, 1, none⟩ = false := R7.out.f1
      have hne : w4.heap.size ≠ w.heap.size := by omega
      go_wp2
      go_region_with (fail)
      all_goals
        go_wp2
        refine bodyPost_ret (v := .tuple #[.agg #[.slice (some ⟨g4, 0, none⟩) k c4, .int .i64 x], .slice (some ⟨gb, 0, none⟩) 0 0]) (by simp [results, Tryz.results12, go_sem, q2, q3]) rfl ⟨HF9.out.1, below_drew0 HF9.out.2⟩
    · skip
      have HF9 := hide (HFIN.out (w6.setCell ⟨w4.heap.size, 1, none⟩ (.int .i64 x)) x R7.out Y7.out YB7.out C7.out z7.out (some ⟨gb, k, none⟩) (fun _ => rfl))
      have q0 : (w6.setCell ⟨w4.heap.size, 1, none⟩ (.int .i64 x)).cell? ⟨w4.heap.size, 0, none⟩ = some (.slice (some ⟨g4, 0, none⟩) k c4) := X7.out.c0
      have q1 : (w6.setCell ⟨w4.heap.size, 1, none⟩ (.int .i64 x)).cell? ⟨w4.heap.size, 1, none⟩ = some (.int .i64 x) := X7.out.c1
      have q2 : (w6.setCell ⟨w4.heap.size, 1, none⟩ (.int .i64 x)).cell? ⟨w.heap.size, 0, none⟩ = some (.slice none 0 0) := R7.out.c0
      have q3 : (w6.setCell ⟨w4.heap.size, 1, none⟩ (.int .i64 x)).cell? ⟨w.heap.size, 1, none⟩ = some (.int .i64 0) := R7.out.c1
      have q4 : (w6.setCell ⟨w4.heap.size, 1, none⟩ (.int .i64 x)).frozen? ⟨w.heap.size, 0, none⟩ = false := R7.out.f0
      have q5 : (w6.setCell ⟨w4.heap.size, 1, none⟩ (.int .i64 x)).frozen? ⟨w.heap.size, 1, none⟩ = false := R7.out.f1
      have hne : w4.heap.size ≠ w.heap.size := by omega
      go_wp2
      go_region_with (fail)
      all_goals
        go_wp2
        refine bodyPost_ret (v := .tuple #[.agg #[.slice (some ⟨g4, 0, none⟩) k c4, .int .i64 x], .slice (some ⟨gb, k, none⟩) (lb.length - k) (cb - k)]) (by simp [results, Tryz.results12, go_sem, q2, q3]) rfl ⟨HF9.out.1, below_drew0 HF9.out.2⟩

theorem drawFeedAll_any {w : World} {B : Nat} {a : Option Addr} {len : Nat} {zs : List Int} (h : CodeIn w B a len zs) (hB : B ≤ w.heap.size) (cap : Nat) :
    Calls Tryz.prog 7 #[.slice a len cap] w fun e w' => (∃ (a' : Option Addr) (c' : Nat) (ls : List (List UInt8)), e = .returned (.slice a' ls.length c') ∧ ls.flatten.length ≤ 12000 ∧ ls.length ≤ 13 ∧ ls.length ≤ c' ∧ Bss w' w'.heap.size a' ls) ∧ Below w.heap.size w w' := by
  have HN := hide (newDX (h.below (Below.refl _ _)) cap)
  clear h
  go_enter Tryz.func7, Tryz.ntmps7
  go_wp2_with fail
  refine HN.out.mono ?_
  rintro e w1 ⟨rfl, hd1, b1⟩
  have z1 := b1.size
  have hlt1 := hd1.lt
  have D1 := hide hd1
  have C1 := hide b1
  clear HN hd1 b1
  go_wp2_with fail
  refine (l6Bytes_any D1.out).mono ?_
  rintro e w2 ⟨⟨v, rfl, lb, hl, hy⟩, hd2, hg2⟩
  obtain ⟨gb, cb, rfl, hy'⟩ := hy.slice
  have hbd := hy'.bd
  have z2 := hg2.size
  have C2 := hide (dc_below C1.out hg2)
  have Y2 := hide (hy'.bytAt (C := w2.heap.size) hbd.2.2.2.2)
  have D2 := hide hd2
  clear hd2 hg2 hy hy' D1 C1
  go_wp2_with fail
  refine (l6Cut_any D2.out gb 0 lb cb Y2.out (by omega) (by omega) (by omega) hl).mono ?_
  rintro e w3 ⟨⟨a', c', ls, rfl, hfl, h13, hc', hbs⟩, hd3, hg3⟩
  have HBs := hide hbs
  have C3 := hide (dc_below C2.out hg3)
  have HFl := hide hfl
  clear hbs hfl hd3 hg3
  go_wp2
  go_ret
  exact ⟨⟨a', c', ls, rfl, by rw [HFl.out]; exact hl, h13, hc', HBs.out⟩, C3.out⟩
end Go.Proofs.YtanebchmeaomgaaGreatDoor
namespace Go.Proofs.YtanebchmeaomgaaGreatDoor
open Go.RowKit M
set_option linter.unusedVariables false

set_option maxRecDepth 100000 in
set_option maxHeartbeats 4000000 in
theorem cut_nil (a0 : Option Addr) (len cap : Nat) (b : Option Addr) (c : Nat) (hcm : c ≤ maxLen) (w : World) :
    Calls Tryz.prog 11 #[.slice a0 len cap, .slice b 0 c] w fun e w' => (∃ (a' : Option Addr) (c' : Nat) (ls : List (List UInt8)), e = .returned (.slice a' ls.length c') ∧ ls.flatten = [] ∧ ls.length ≤ 41 ∧ Bss w' w'.heap.size a' ls) ∧ Below w.heap.size w w' := by
  have O0 : Hid (OwnV (w.alloc (Obj.cells #[] 22)) w.heap.size (.slice (some ⟨w.heap.size, 0, none⟩) 0 0) []) :=
    ⟨rfl, .inr ⟨w.heap.size, 0, #[], rfl, Nat.le_refl _, heap_alloc_new w _, Nat.le_refl _, Nat.zero_le _, rfl, rfl⟩⟩
  go_enter Tryz.func11, Tryz.ntmps11
  go_wp2
  go_loopw [1, 5, 6] (fun b' v i wr => b' = .slice b 0 c ∧ i = .int .i64 0 ∧ v = .slice (some ⟨w.heap.size, 0, none⟩) 0 0 ∧ OwnV wr w.heap.size v [] ∧ Below w.heap.size w wr) (fun _ _ _ _ => 0)
  case atStart => exact ⟨rfl, rfl, rfl, O0.out, (Below.refl _ _).alloc (Nat.le_refl _) _⟩
  case round =>
    clear O0
    obtain ⟨rfl, rfl, rfl, how, hbe⟩ := hrel
    have HO := hide how
    have HB := hide hbe
    have hz := hbe.size
    clear how hbe
    go_wp2_with (at_builtin; refine wp_append_sl rfl _ _ rfl w.heap.size _ [] rfl (HO.out.alloc _) _ b 0 c rfl ?_ ?_ ?_ ?_)
    · simp
    · simp
    · simp; omega
    intro v' w' ho' hg'
    have hB1 := (HB.out.alloc hz _).trans (belowO hg' (fun g hg => (World.ownsRow.lt HO.out g hg).1) (by simp; omega))
    have hp : Parts w w.heap.size ([] ++ [.slice b 0 c]) ([] ++ [([] : List UInt8)]) := Parts.snoc ⟨rfl, fun j hj => absurd hj (Nat.not_lt_zero _)⟩ (l := []) (fun h0 => absurd h0 (Nat.lt_irrefl _)) (Nat.zero_le _) hcm
    obtain ⟨a2, c2, rfl, hbs⟩ := (hp.keep hB1 (Nat.le_refl _)).bss ho' hB1.size
    have HBs := hide hbs
    have HB1 := hide hB1
    clear hbs hB1 ho' hg' hp
    go_wp2
    go_ret
    exact ⟨⟨a2, c2, [[]], rfl, rfl, by simp, HBs.out⟩, HB1.out⟩
end Go.Proofs.YtanebchmeaomgaaGreatDoor
namespace Go.Proofs.YtanebchmeaomgaaGreatDoor
open Go.RowKit
set_option linter.unusedVariables false

/-- A row of cells in block g, none of them frozen. -/
def RowC (w : World) (g n : Nat) : Prop := g < w.heap.size ∧ ∀ j, j < n → (∃ v, w.cell? ⟨g, j, none⟩ = some v) ∧ w.frozen? ⟨g, j, none⟩ = false
theorem RowC.of {w w' : World} {g n : Nat} (h : RowC w g n) (hs' : w.heap.size ≤ w'.heap.size) (hb : w'.heap[g]? = w.heap[g]?) : RowC w' g n := by
  have hc : ∀ o, w'.cell? ⟨g, o, none⟩ = w.cell? ⟨g, o, none⟩ := fun o => World.cell?_of_block (a := ⟨g, o, none⟩) hb
  have hf : ∀ o, w'.frozen? ⟨g, o, none⟩ = w.frozen? ⟨g, o, none⟩ := fun o => World.frozen?_of_block (a := ⟨g, o, none⟩) hb
  exact ⟨Nat.lt_of_lt_of_le h.1 hs', fun j hj => by rw [hc, hf]; exact h.2 j hj⟩
theorem RowC.set {w : World} {g n : Nat} (h : RowC w g n) (o : Nat) (v : Value) : RowC (w.setCell ⟨g, o, none⟩ v) g n := ⟨by simpa using h.1, fun j hj => by
  obtain ⟨⟨u, hu⟩, hf⟩ := h.2 j hj
  refine ⟨?_, by rw [World.frozen?_setCell]; exact hf⟩
  by_cases e : o = j
  · subst e; exact ⟨v, World.cell?_setCell_same _ _ _ hu⟩
  · exact ⟨u, (World.cell?_setCell_other _ _ _ _ (fun e' => e (congrArg Addr.off e'))).trans hu⟩⟩
theorem grownG_refl (w : World) (g : Nat) : w.grownBy w (some g) := ⟨rfl, rfl, rfl, Nat.le_refl _, fun _ _ _ => rfl⟩
theorem grownG_next {w w1 w2 : World} {g : Nat} (h : w.grownBy w1 (some g)) (hb : Below w1.heap.size w1 w2) : w.grownBy w2 (some g) :=
  ⟨hb.os.trans h.os, hb.tape.trans h.tape, hb.output.trans h.output, Nat.le_trans h.size hb.size, fun k hk hne => (hb.block k (Nat.lt_of_lt_of_le hk h.size)).trans (h.block k hk hne)⟩
theorem grownG_set {w w1 : World} {g : Nat} (h : w.grownBy w1 (some g)) (o : Nat) (v : Value) : w.grownBy (w1.setCell ⟨g, o, none⟩ v) (some g) :=
  ⟨h.os, h.tape, h.output, by simpa using h.size, fun k hk hne => (heap_setCell_other w1 ⟨g, o, none⟩ k v (fun e => hne (by rw [e]))).trans (h.block k hk hne)⟩
/-- What was turned of what was there lies in the blocks from lo on, below hi. -/
structure Within (lo hi : Nat) (w w' : World) : Prop where
  os : w'.os = w.os
  tape : w'.tape = w.tape
  output : w'.output = w.output
  size : w.heap.size ≤ w'.heap.size
  block : ∀ k, k < w.heap.size → (k < lo ∨ hi ≤ k) → w'.heap[k]? = w.heap[k]?
theorem Within.refl (lo hi : Nat) (w : World) : Within lo hi w w := ⟨rfl, rfl, rfl, Nat.le_refl _, fun _ _ _ => rfl⟩
theorem Within.trans {lo hi : Nat} {a b c : World} (h : Within lo hi a b) (k : Within lo hi b c) : Within lo hi a c :=
  ⟨k.os.trans h.os, k.tape.trans h.tape, k.output.trans h.output, Nat.le_trans h.size k.size, fun i hi hk => (k.block i (Nat.lt_of_lt_of_le hi h.size) hk).trans (h.block i hi hk)⟩
theorem Within.below {lo hi : Nat} {w w' : World} (h : Within lo hi w w') (hz : lo ≤ w.heap.size) : Below lo w w' :=
  ⟨h.os, h.tape, h.output, h.size, fun k hk => h.block k (by omega) (.inl hk)⟩
theorem Within.of_grown {lo hi g : Nat} {w w' : World} (h : w.grownBy w' (some g)) (h1 : lo ≤ g) (h2 : g < hi) : Within lo hi w w' :=
  ⟨h.os, h.tape, h.output, h.size, fun k hk hd => h.block k hk (fun e => by have := Option.some.inj e; omega)⟩
theorem Within.of_below {lo hi : Nat} {w w' : World} (h : Below w.heap.size w w') : Within lo hi w w' :=
  ⟨h.os, h.tape, h.output, h.size, fun k hk _ => h.block k hk⟩

theorem RowC.setAny {w : World} {g n : Nat} (h : RowC w g n) (g' o : Nat) (v : Value) : RowC (w.setCell ⟨g', o, none⟩ v) g n := by
  by_cases e : g = g'
  · subst e; exact h.set o v
  · exact h.of (by simp [World.setCell]) (Below.heap_setCell _ _ _ _ e)
end Go.Proofs.YtanebchmeaomgaaGreatDoor
namespace Go.Proofs.YtanebchmeaomgaaGreatDoor
open Go.RowKit M
set_option linter.unusedVariables false

theorem OwnY.row {w : World} {B : Nat} {v : Value} {l : List UInt8} (h : OwnY w B v l) : ∃ g c, v = .slice (some ⟨g, 0, none⟩) l.length c ∧ B ≤ g ∧ RowC w g l.length := by
  obtain ⟨g, cap, cur, fz, hv, hB, hg, hfz, h1, h2, h3, h4⟩ := h
  refine ⟨g, cap, hv, hB, (Array.getElem?_eq_some_iff.1 hg).1, fun j hj => ⟨⟨cur[j]'(by omega), by simp [World.cell?, hg, show j < cur.size by omega]⟩, ?_⟩⟩
  obtain ⟨lo, hi⟩ := fz
  simp only [World.frozen?, hg, Bool.and_eq_false_iff, decide_eq_false_iff_not]
  simp only at hfz
  omega
end Go.Proofs.YtanebchmeaomgaaGreatDoor
namespace Go.Proofs.YtanebchmeaomgaaGreatDoor
open Go.RowKit
set_option linter.unusedVariables false

/-- The slice v holds the bytes l; where there are any, at the head of a block from B on, none of them frozen. -/
def FreshY (w : World) (B : Nat) (v : Value) (l : List UInt8) : Prop :=
  ∃ a c, v = .slice a l.length c ∧ l.length ≤ c ∧ c ≤ maxLen ∧ (0 < l.length → ∃ g, a = some ⟨g, 0, none⟩ ∧ B ≤ g ∧ RowC w g l.length) ∧ Byt w w.heap.size a l
theorem FreshY.nul (w : World) (B : Nat) : FreshY w B (.slice none 0 0) [] := ⟨_, 0, rfl, Nat.le_refl _, Nat.zero_le _, fun h => absurd h (Nat.lt_irrefl _), Byt.nil _ _ _⟩
theorem FreshY.empty (w : World) (B : Nat) (a : Option Addr) (c : Nat) (hc : c ≤ maxLen) : FreshY w B (.slice a 0 c) [] := ⟨_, c, rfl, Nat.zero_le _, hc, fun h => absurd h (Nat.lt_irrefl _), Byt.nil _ _ _⟩
theorem FreshY.next {w w' : World} {B : Nat} {v : Value} {l : List UInt8} (h : FreshY w B v l) (hb : Below w.heap.size w w') : FreshY w' B v l := by
  obtain ⟨a, c, rfl, h1, h2, h3, h4⟩ := h
  refine ⟨a, c, rfl, h1, h2, fun h0 => ?_, (h4.below hb (Nat.le_refl _)).mono hb.size⟩
  obtain ⟨g, e, hB, hr⟩ := h3 h0
  exact ⟨g, e, hB, hr.of hb.size (hb.block g hr.1)⟩
/-- What is turned elsewhere does not matter. -/
theorem FreshY.same {w w' : World} {B : Nat} {v : Value} {l : List UInt8} (h : FreshY w B v l) (hs : w.heap.size ≤ w'.heap.size) (hb : ∀ k, B ≤ k → k < w.heap.size → w'.heap[k]? = w.heap[k]?) : FreshY w' B v l := by
  obtain ⟨a, c, rfl, h1, h2, h3, h4⟩ := h
  refine ⟨a, c, rfl, h1, h2, fun h0 => ?_, fun h0 => ?_⟩
  · obtain ⟨g, e, hB, hr⟩ := h3 h0
    exact ⟨g, e, hB, hr.of hs (hb g hB hr.1)⟩
  · obtain ⟨g, e, hB, hr⟩ := h3 h0
    obtain ⟨b, o, e2, hbB, hc⟩ := h4 h0
    rw [e] at e2
    cases e2
    exact ⟨g, 0, e, Nat.lt_of_lt_of_le hbB hs, fun j hj => (World.cell?_of_block (a := ⟨g, 0 + j, none⟩) (hb g hB hr.1)).trans (hc j hj)⟩
theorem OwnY.fresh {w : World} {B : Nat} {v : Value} {l : List UInt8} (h : OwnY w B v l) : FreshY w B v l := by
  obtain ⟨g, c, rfl, hB, _, h1, h2, h3⟩ := h.byt
  refine ⟨_, c, rfl, h1, h2, fun _ => ?_, h3⟩
  obtain ⟨g', c', e, hB', hr⟩ := h.row
  cases e
  exact ⟨g, rfl, hB, hr⟩
end Go.Proofs.YtanebchmeaomgaaGreatDoor
namespace Go.Proofs.YtanebchmeaomgaaGreatDoor
open Go.RowKit
set_option linter.unusedVariables false

theorem flat_snoc (ls : List (List UInt8)) (k : Nat) (h : k < ls.length) : (ls.take (k + 1)).flatten = (ls.take k).flatten ++ ls[k] := by
  rw [List.take_succ_eq_append_getElem h, List.flatten_append]
  simp
theorem flat_all (ls : List (List UInt8)) (k : Nat) (h : ¬ k < ls.length) : (ls.take k).flatten = ls.flatten := by rw [List.take_of_length_le (by omega)]

set_option maxHeartbeats 1000000 in
theorem specJoined_any (a : Option Addr) (ls : List (List UInt8)) (cap B : Nat) (w : World) (h : Bss w B a ls) (hB : B ≤ w.heap.size) (hl : ls.length ≤ 1048576) (hs : sumB ls ≤ 4194304) :
    Calls Tryz.prog 15 #[.slice a ls.length cap] w fun e w' => (∃ v, e = .returned v ∧ OwnY w' w.heap.size v ls.flatten) ∧ Below w.heap.size w w' := by
  have hb0 : Below w.heap.size w (w.alloc (Obj.cells #[] 5)) := (Below.refl _ _).alloc (Nat.le_refl _) _
  have HB0 := hide hb0
  have HO0 := hide (OwnY.bare w)
  clear hb0
  go_enter Tryz.func15, Tryz.ntmps15
  go_wp2
  go_loopw [3, 4] (fun v i wr => ∃ k : Nat, k ≤ ls.length ∧ i = .int .i64 k ∧ OwnY wr w.heap.size v (ls.take k).flatten ∧ Below w.heap.size w wr) (fun _ i _ => ls.length - (intOf i).toNat)
  case atStart => exact ⟨0, Nat.zero_le _, rfl, HO0.out, HB0.out⟩
  case round =>
    obtain ⟨k, hk, rfl, hown, hbe⟩ := hrel
    by_cases hlt : k < ls.length
    · obtain ⟨b, o, rfl, hb, hc⟩ := h (by omega)
      obtain ⟨aj, cj, hc1, hy, hlc, hcm⟩ := hc k hlt
      have hcx := (hbe.cell (p := ⟨b, o + k, none⟩) (Nat.lt_of_lt_of_le hb hB)).trans hc1
      have h1 := sumB_le ls k
      have h2 := sumB_at ls k hlt
      have h3 := sumB_flat (ls.take k)
      have HY := hide (hy.below hbe hB)
      have HO := hide hown
      have HB := hide hbe
      have HF := hide (flat_snoc ls k hlt)
      obtain ⟨g, c, rfl, hg, _⟩ := hown.byt
      clear hc hc1 hy hlc hcm hown hbe
      go_wp2_with (at_builtin; refine wp_append_any rfl _ _ rfl w.heap.size _ (ls.take k).flatten rfl HO.out aj ls[k] cj B rfl HY.out (by omega) HB.out.size ?_)
      intro v' w1 o1 g1 _
      have HO1 := hide o1
      rw [← HF.out] at HO1
      have HB1 := hide (HB.out.trans (HO.out.grown HB.out.size g1))
      clear o1 g1
      go_wp2
      go_roundw
      case rel => exact ⟨k + 1, by omega, by go_num, HO1.out, HB1.out⟩
      case measure => simp [intOf]; omega
    · have HF := flat_all ls k hlt
      rw [HF] at hown
      clear HF
      go_wp2
      go_ret
      exact ⟨⟨_, rfl, hown⟩, hbe⟩

theorem parts_of {w : World} {B : Nat} {b o : Nat} {ls : List (List UInt8)} (h : ∀ j (hj : j < ls.length), ∃ aj cj, w.cell? ⟨b, o + j, none⟩ = some (.slice aj ls[j].length cj) ∧ Byt w B aj ls[j] ∧ ls[j].length ≤ cj ∧ cj ≤ maxLen) :
    Lib.PartsAt w ⟨b, o, none⟩ ((List.range ls.length).map fun j => (w.cell? ⟨b, o + j, none⟩).getD undef) ls := by
  refine ⟨by simp, fun i v hv => ?_, fun i v l hv hl => ?_⟩
  · have hi : i < ls.length := by
      have := (List.getElem?_eq_some_iff.1 hv).1
      simpa using this
    obtain ⟨aj, cj, h1, _⟩ := h i hi
    simp [hi] at hv
    rw [add_plainA]
    rw [h1] at hv ⊢
    rw [← hv]; rfl
  · have hi : i < ls.length := (List.getElem?_eq_some_iff.1 hl).1
    obtain ⟨aj, cj, h1, h2, _⟩ := h i hi
    simp [hi] at hv
    rw [h1] at hv
    have hle : ls[i] = l := (List.getElem?_eq_some_iff.1 hl).2
    rw [hle] at h1 h2 hv
    refine ⟨aj, cj, hv.symm, fun e => ?_, fun x e j y hy => ?_⟩
    · subst e
      by_cases h0 : 0 < l.length
      · obtain ⟨_, _, e, _⟩ := h2 h0; cases e
      · exact List.length_eq_zero_iff.1 (by omega)
    · subst e
      have hj := (List.getElem?_eq_some_iff.1 hy).1
      obtain ⟨b', o', e, _, hc⟩ := h2 (by omega)
      cases e
      rw [add_plainA, hc j hj]
      have := (List.getElem?_eq_some_iff.1 hy).2
      rw [this]
theorem fresh_of {w : World} {B : Nat} {v : Value} {l : List UInt8} (h : Lib.FreshBytes B w v l) : FreshY w B v l := by
  obtain ⟨g, cap, zs, rfl, hB, h1, h2, h3, h4, h5, h6, h7⟩ := h
  have hz : ∀ j (hj : j < l.length), zs.getD j 0 = (l[j]).toNat := by
    intro j hj
    have hj2 : j < zs.length := by omega
    have e : (Lib.bytesOf (zs.take l.length))[j]? = some l[j] := by rw [h5]; exact List.getElem?_eq_getElem hj
    have hr := h4 zs[j] (List.getElem_mem hj2)
    simp [Lib.bytesOf, hj, List.getElem?_eq_getElem hj2] at e
    simp [List.getD, List.getElem?_eq_getElem hj2]
    rw [← e]
    simp
    omega
  refine ⟨_, cap, rfl, h1, h2, fun h0 => ⟨g, rfl, hB, ?_⟩, fun h0 => ?_⟩
  · exact ⟨World.block_lt_of_cell? w _ (h6 0 (by omega)), fun j hj => ⟨⟨_, h6 j (by omega)⟩, h7 j (by omega)⟩⟩
  · exact ⟨g, 0, rfl, World.block_lt_of_cell? w _ (h6 0 (by omega)), fun j hj => by rw [Nat.zero_add, h6 j (by omega), hz j hj]⟩
theorem join_flat (ls : List (List UInt8)) : Lib.join ls [] = ls.flatten := by
  cases ls with
  | nil => rfl
  | cons x r =>
    rw [Lib.join_cons]
    simp [Lib.joinTail]

set_option maxHeartbeats 1000000 in
theorem join_any (a : Option Addr) (ls : List (List UInt8)) (cap B : Nat) (w : World) (h : Bss w B a ls) (hB : B ≤ w.heap.size) (hlc : ls.length ≤ cap) (hl : ls.length ≤ 1048576) (hs : sumB ls ≤ 4194304) :
    Calls Tryz.prog 44 #[.slice a ls.length cap, .slice none 0 0] w fun e w' => (∃ v, e = .returned v ∧ FreshY w' w.heap.size v ls.flatten) ∧ Below w.heap.size w w' := by
  match ls, h, hlc, hl, hs with
  | [], h, hlc, hl, hs =>
    refine (Tryz.bytes_Join_none a cap _ w).mono ?_
    rintro e w' ⟨rfl, rfl⟩
    exact ⟨⟨_, rfl, FreshY.empty _ _ _ 0 (Nat.zero_le _)⟩, (Below.refl _ _).alloc (Nat.le_refl _) _⟩
  | [l], h, hlc, hl, hs =>
    obtain ⟨b, o, rfl, hb, hc⟩ := h (by simp)
    obtain ⟨aj, cj, h1, h2, h3, h4⟩ := hc 0 (by simp)
    have h1' : w.cell? ⟨b, o, none⟩ = some (.slice aj l.length cj) := h1
    have h2' : Byt w B aj l := h2
    have e0 : [l].flatten = l := by simp
    have hll : l.length ≤ 140737488355328 := by
      have : sumB [l] = l.length := by simp [sumB]
      omega
    rw [e0]
    by_cases h0 : 0 < l.length
    · obtain ⟨b', o', rfl, _, hcc⟩ := h2' h0
      refine (Tryz.bytes_Join_one b o cap ⟨b', o', none⟩ cj l _ w h1' (fun i x hx => ?_) h0 hll).mono ?_
      · have hi := (List.getElem?_eq_some_iff.1 hx).1
        rw [add_plainA, hcc i hi, (List.getElem?_eq_some_iff.1 hx).2]
      · rintro e w' ⟨v, rfl, hf, hb⟩
        exact ⟨⟨v, rfl, fresh_of hf⟩, hb⟩
    · have hn : l = [] := List.length_eq_zero_iff.1 (by omega)
      subst hn
      refine (Tryz.bytes_Join_one_empty b o cap aj cj _ w h1').mono ?_
      rintro e w' ⟨rfl, rfl⟩
      exact ⟨⟨_, rfl, FreshY.nul _ _⟩, Below.refl _ _⟩
  | l1 :: l2 :: lr, h, hlc, hl, hs =>
    obtain ⟨b, o, rfl, hb, hc⟩ := h (by simp)
    have hj := join_flat (l1 :: l2 :: lr)
    have e1 : Lib.lens (l1 :: l2 :: lr) = sumB (l1 :: l2 :: lr) := rfl
    refine (Tryz.bytes_Join_many b o _ cap _ (l1 :: l2 :: lr) (.slice none 0 0) [] w rfl (by simp) (parts_of hc) hlc ⟨none, 0, rfl, fun _ => rfl, fun a e => by cases e⟩ (by omega) (by rw [e1]; simp only [List.length_nil, Nat.zero_mul]; omega)).mono ?_
    rintro e w' ⟨v, rfl, hf, hb⟩
    rw [hj] at hf
    exact ⟨⟨v, rfl, fresh_of hf⟩, hb⟩
set_option maxHeartbeats 400000 in
theorem joined_any (a : Option Addr) (ls : List (List UInt8)) (cap B : Nat) (w : World) (h : Bss w B a ls) (hB : B ≤ w.heap.size) (hlc : ls.length ≤ cap) (hl : ls.length ≤ 1048576) (hs : sumB ls ≤ 4194304) :
    Calls Tryz.prog 9 #[.slice a ls.length cap] w fun e w' => (∃ v, e = .returned v ∧ FreshY w' w.heap.size v ls.flatten) ∧ Below w.heap.size w w' := by
  have HJ := hide (join_any a ls cap B w h hB hlc hl hs)
  clear h
  go_enter Tryz.func9, Tryz.ntmps9
  go_wp2_with fail
  refine HJ.out.mono ?_
  rintro e w1 ⟨⟨v, rfl, h1⟩, b1⟩
  have H1 := hide h1
  clear h1 HJ
  go_wp2
  go_ret
  exact ⟨⟨_, rfl, H1.out⟩, b1⟩
end Go.Proofs.YtanebchmeaomgaaGreatDoor
namespace Go.Proofs.YtanebchmeaomgaaGreatDoor.M

/-- Two line's ends. -/
def two4 : List UInt8 := [13, 10, 13, 10]
/-- The place behind the first two line's ends, one behind the other, among the first 400 bytes. -/
def heL (l : List UInt8) : Int := if 0 ≤ Lib.index (l.take 400) two4 then Lib.index (l.take 400) two4 + 4 else -1

theorem prefix_take (p m : List UInt8) : p.isPrefixOf m = decide (m.take p.length = p) := by
  rw [Bool.eq_iff_iff]
  simp only [List.isPrefixOf_iff_prefix, decide_eq_true_eq, List.prefix_iff_eq_take]
  exact eq_comm

theorem occ_at (l : List UInt8) (k : Nat) (h4 : k + 4 ≤ 400) : Lib.occAt (l.take 400) two4 k = decide ((l.drop k).take 4 = two4) := by
  unfold Lib.occAt
  rw [prefix_take]
  have e : ((l.take 400).drop k).take two4.length = (l.drop k).take 4 := by
    rw [List.drop_take, List.take_take]
    congr 1
    show min 4 (400 - k) = 4
    omega
  rw [e]

theorem occ_past (l : List UInt8) (k : Nat) (h : l.length < k + 4 ∨ 400 < k + 4) : Lib.occAt (l.take 400) two4 k = false := by
  unfold Lib.occAt
  rw [prefix_take, decide_eq_false_iff_not]
  intro e
  have := congrArg List.length e
  simp only [List.length_take, List.length_drop] at this
  have h4 : two4.length = 4 := rfl
  omega

theorem heL_at {l : List UInt8} {k : Nat} (h : k + 4 ≤ l.length) (h4 : k + 4 ≤ 400) (h0 : ∀ j, j < k → Lib.occAt (l.take 400) two4 j = false) (h1 : (l.drop k).take 4 = two4) : heL l = k + 4 := by
  have hi : Lib.index (l.take 400) two4 = k := Lib.index_first (by rw [List.length_take]; omega) (by rw [occ_at l k h4]; simp [h1]) h0
  unfold heL
  rw [hi, if_pos (by omega)]

theorem heL_none {l : List UInt8} {k : Nat} (h : ¬ (k + 3 < l.length ∧ k + 3 < 400)) (h0 : ∀ j, j < k → Lib.occAt (l.take 400) two4 j = false) : heL l = -1 := by
  have hi : Lib.index (l.take 400) two4 = -1 := Lib.index_none fun j _ => by
    by_cases e : j < k
    · exact h0 j e
    · exact occ_past l j (by omega)
  unfold heL
  rw [hi, if_neg (by omega)]

theorem two4_str (m : List UInt8) : ((⟨m.toArray⟩ : ByteArray).toList == [13, 10, 13, 10]) = decide (m = two4) := by
  rw [ByteArray.toList_eq]
  show (m.toArray.toList == two4) = _
  by_cases h : m = two4 <;> simp [h]

theorem two4_beq (m : List UInt8) : (m == [13, 10, 13, 10]) = decide (m = two4) := by
  show (m == two4) = _
  by_cases h : m = two4 <;> simp [h]

theorem heL_bd (l : List UInt8) : -1 ≤ heL l ∧ heL l ≤ 400 ∧ heL l ≤ l.length ∧ (heL l = -1 ∨ 4 ≤ heL l) := by
  unfold heL
  by_cases h : 0 ≤ Lib.index (l.take 400) two4
  · rw [if_pos h]
    obtain ⟨k, hk⟩ : ∃ k : Nat, Lib.index (l.take 400) two4 = k := ⟨_, (Int.toNat_of_nonneg h).symm⟩
    have hr := Lib.index_room (l.take 400) two4 h
    have h4 : two4.length = 4 := rfl
    have hle : k + 4 ≤ (l.take 400).length := by rw [hk, h4] at hr; omega
    rw [List.length_take] at hle
    rw [hk]
    omega
  · rw [if_neg h]
    omega
end Go.Proofs.YtanebchmeaomgaaGreatDoor.M
namespace Go.Proofs.YtanebchmeaomgaaGreatDoor
open Go.RowKit M
set_option linter.unusedVariables false

theorem ret_intE {a b : Int} (h : a = b) : Ending.returned (.int .i64 a) = .returned (.int .i64 b) := by rw [h]
/-- The bytes as numbers. -/
def numsOf (l : List UInt8) : List Int := l.map fun c => (c.toNat : Int)
theorem numsOf_length (l : List UInt8) : (numsOf l).length = l.length := by simp [numsOf]
theorem numsOf_bytes (l : List UInt8) : Lib.bytesOf (numsOf l) = l := by
  unfold Lib.bytesOf numsOf
  rw [List.map_map]
  have e : ∀ c : UInt8, ((fun x : Int => UInt8.ofNat x.toNat) ∘ fun c : UInt8 => (c.toNat : Int)) c = c := fun c => by simp
  conv => rhs; rw [← List.map_id l]
  exact List.map_congr_left fun c _ => by simp
theorem numsOf_range (l : List UInt8) : ∀ x ∈ numsOf l, 0 ≤ x ∧ x < 256 := by
  intro x hx
  obtain ⟨c, _, rfl⟩ := List.mem_map.1 hx
  have := c.toNat_lt
  omega
theorem numsOf_cells {w : World} {b o : Nat} {l : List UInt8} (h : ∀ j (hj : j < l.length), w.cell? ⟨b, o + j, none⟩ = some (.int .u8 l[j].toNat)) : ∀ i, i < l.length → w.cell? ((⟨b, o, none⟩ : Addr).add i) = some (.int .u8 ((numsOf l).getD i 0)) := by
  intro i hi
  have e : (⟨b, o, none⟩ : Addr).add i = ⟨b, o + i, none⟩ := by unfold Addr.add; split <;> simp_all
  rw [e, h i hi]
  simp [numsOf, List.getD, List.getElem?_eq_getElem hi]
end Go.Proofs.YtanebchmeaomgaaGreatDoor
namespace Go.Proofs.YtanebchmeaomgaaGreatDoor.M

/-- The worth of decimal digits, the first one the greatest, behind a number. -/
def decValF (n : Nat) (l : List UInt8) : Nat := l.foldl (fun n c => n * 10 + (c.toNat - 48)) n
def decVal (l : List UInt8) : Nat := decValF 0 l

theorem decVal_snoc (l : List UInt8) (c : UInt8) : decVal (l ++ [c]) = decVal l * 10 + (c.toNat - 48) := by
  simp [decVal, decValF]

def digs (l : List UInt8) : Bool := allB l [4]

theorem digs_cons (c : UInt8) (r : List UInt8) : digs (c :: r) = true → (48 ≤ c.toNat ∧ c.toNat ≤ 57) ∧ digs r = true := by
  intro h
  have h1 : isB (c.toNat : Int) 4 = true ∧ digs r = true := by simpa [digs, allB, anyB] using h
  refine ⟨?_, h1.2⟩
  have := h1.1; simp [isB] at this; omega

theorem decFrom_val (l : List UInt8) : ∀ n, digs l = true → Lib.decFrom n l = some (decValF n l) := by
  induction l with
  | nil => intro n _; rfl
  | cons c r ih =>
    intro n h
    obtain ⟨h1, h2⟩ := digs_cons c r h
    have hd : Lib.digitVal c = some (c.toNat - 48) := by unfold Lib.digitVal; rw [if_pos h1]
    simp only [Lib.decFrom, hd]
    exact ih _ h2

theorem atoi_val (l : List UInt8) (h : digs l = true) (h0 : 1 ≤ l.length) : Lib.atoi l = some (decVal l : Int) := by
  match l, h, h0 with
  | c :: r, h, _ =>
    obtain ⟨h1, _⟩ := digs_cons c r h
    have e45 : (c == 45) = false := by
      rw [beq_eq_false_iff_ne]; intro e; subst e; exact absurd h1.1 (by decide)
    have e43 : (c == 43) = false := by
      rw [beq_eq_false_iff_ne]; intro e; subst e; exact absurd h1.1 (by decide)
    simp only [Lib.atoi, e45, e43]
    simp [Lib.decNat, decFrom_val _ _ h, decVal]

theorem decVal_lt (l : List UInt8) (h : digs l = true) : decVal l < 10 ^ l.length := by
  have := Lib.decFrom_lt l 0 _ (decFrom_val l 0 h)
  simpa [decVal] using this

theorem pow_le8 {k : Nat} (h : k ≤ 8) : 10 ^ k ≤ 100000000 := by
  have := Nat.pow_le_pow_right (show 0 < 10 by decide) h
  exact this

/-- What ParseNum answers. -/
def parseOk (l : List UInt8) (most : Int) : Prop := 1 ≤ l.length ∧ l.length ≤ 7 ∧ digs l = true ∧ ¬ (1 < l.length ∧ l.head? = some 48) ∧ (decVal l : Int) ≤ most
def parseB (l : List UInt8) (most : Int) : Bool := decide (1 ≤ l.length) && (decide (l.length ≤ 7) && (digs l && (!(decide (1 < l.length) && l.head? == some 48) && decide ((decVal l : Int) ≤ most))))
theorem parseB_iff (l : List UInt8) (most : Int) : parseB l most = true ↔ parseOk l most := by
  simp only [parseB, parseOk, Bool.and_eq_true, decide_eq_true_eq, Bool.not_eq_true', Bool.and_eq_false_iff, decide_eq_false_iff_not]
  constructor
  · rintro ⟨a, b, c, d, e⟩
    refine ⟨a, b, c, ?_, e⟩
    rintro ⟨x, y⟩
    rcases d with d | d
    · exact d x
    · simp [y] at d
  · rintro ⟨a, b, c, d, e⟩
    refine ⟨a, b, c, ?_, e⟩
    by_cases x : 1 < l.length
    · right
      rw [beq_eq_false_iff_ne]
      exact fun y => d ⟨x, y⟩
    · exact .inl x
def parseNum (l : List UInt8) (most : Int) : Int × Bool := if parseB l most then ((decVal l : Int), true) else (0, false)
theorem parseNum_no {l : List UInt8} {most : Int} (h : ¬ parseOk l most) : parseNum l most = (0, false) := if_neg (fun e => h ((parseB_iff l most).1 e))
theorem parseNum_yes {l : List UInt8} {most : Int} (h : parseOk l most) : parseNum l most = ((decVal l : Int), true) := if_pos ((parseB_iff l most).2 h)

theorem digs_snoc (s : ByteArray) (k : Nat) (h : k < s.size) (h0 : digs (s.data.toList.take k) = true) (h2 : isB (s[k].toNat : Int) 4 = true) : digs (s.data.toList.take (k + 1)) = true :=
  allB_snoc s [4] k h h0 (by rw [anyB_one, h2]; rfl)
theorem digs_not (s : ByteArray) (k : Nat) (h : k < s.size) (h2 : isB (s[k].toNat : Int) 4 = false) : digs s.data.toList = false :=
  allB_not s [4] k h (by rw [anyB_one, h2]; rfl)
theorem decVal_step (s : ByteArray) (k : Nat) (h : k < s.size) : decVal (s.data.toList.take (k + 1)) = decVal (s.data.toList.take k) * 10 + (s[k].toNat - 48) := by
  rw [take_snoc s k h, decVal_snoc]
theorem isB4 {c : Int} (h : isB c 4 = true) : 48 ≤ c ∧ c ≤ 57 := by simp [isB] at h; omega
theorem head_get (s : ByteArray) (h : 0 < s.size) : s.data.toList.head? = some s[0] := by
  have e : s.data.toList.length = s.size := Array.length_toList
  rw [List.head?_eq_getElem?, List.getElem?_eq_getElem (by omega)]; rfl
theorem len_list (s : ByteArray) : s.data.toList.length = s.size := Array.length_toList

theorem not_size {s : ByteArray} {most : Int} (h : inB (s.size : Int) 1 7 = false) : ¬ parseOk s.data.toList most := by
  intro hp
  have e := len_list s
  have h1 : 1 ≤ s.size ∧ s.size ≤ 7 := by have := hp.1; have := hp.2.1; omega
  simp [inB] at h
  omega
theorem not_nought {s : ByteArray} {most : Int} (h0 : 0 < s.size) (h1 : 1 < s.size) (hz : (((s[0]).toNat : Int) == 48) = true) : ¬ parseOk s.data.toList most := by
  intro hp
  refine hp.2.2.2.1 ⟨by rw [len_list]; exact h1, ?_⟩
  rw [head_get s h0]
  have : (s[0]).toNat = 48 := by simp at hz; omega
  congr 1
  exact UInt8.toNat_inj.1 this
theorem not_most {l : List UInt8} {most : Int} (h : most < (decVal l : Int)) : ¬ parseOk l most := fun hp => by have := hp.2.2.2.2; omega
theorem not_digs {l : List UInt8} {most : Int} (h : digs l = false) : ¬ parseOk l most := fun hp => by have := hp.2.2.1; rw [h] at this; cases this
theorem is_ok {s : ByteArray} {most : Int} (h0 : 0 < s.size) (h : inB (s.size : Int) 1 7 = true) (hd : digs s.data.toList = true) (hz : 1 < s.size → (((s[0]).toNat : Int) == 48) = false) (hm : ¬ most < (decVal s.data.toList : Int)) : parseOk s.data.toList most := by
  have e := len_list s
  have h1 : 1 ≤ s.size ∧ s.size ≤ 7 := by simp [inB] at h; omega
  refine ⟨by omega, by omega, hd, ?_, by omega⟩
  rintro ⟨h2, h3⟩
  rw [head_get s h0] at h3
  have h4 := hz (by omega)
  have h5 : s[0] = 48 := Option.some.inj h3
  rw [h5] at h4
  simp at h4

end Go.Proofs.YtanebchmeaomgaaGreatDoor.M
namespace Go.Proofs.YtanebchmeaomgaaGreatDoor.M

/-- The worth of a digit to the base 16. -/
def hexW (c : UInt8) : Nat := if isB (c.toNat : Int) 4 then c.toNat - 48 else if isB (c.toNat : Int) 5 then c.toNat - 87 else c.toNat - 55
def isHex (c : UInt8) : Bool := anyB (c.toNat : Int) [4, 5, 6]
def hexVal (l : List UInt8) : Nat := l.foldl (fun n c => n * 16 + hexW c) 0
def hexs (l : List UInt8) : Bool := allB l [4, 5, 6]

theorem hexVal_snoc (l : List UInt8) (c : UInt8) : hexVal (l ++ [c]) = hexVal l * 16 + hexW c := by
  simp [hexVal]

theorem isHex_cases {c : UInt8} (h : isHex c = true) : isB (c.toNat : Int) 4 = true ∨ (isB (c.toNat : Int) 4 = false ∧ isB (c.toNat : Int) 5 = true) ∨ (isB (c.toNat : Int) 4 = false ∧ isB (c.toNat : Int) 5 = false ∧ isB (c.toNat : Int) 6 = true) := by
  unfold isHex anyB at h
  cases h4 : isB (c.toNat : Int) 4 <;> cases h5 : isB (c.toNat : Int) 5 <;> cases h6 : isB (c.toNat : Int) 6 <;> simp_all

theorem isB5 {c : Int} (h : isB c 5 = true) : 97 ≤ c ∧ c ≤ 102 := by simp [isB] at h; omega
theorem isB6 {c : Int} (h : isB c 6 = true) : 65 ≤ c ∧ c ≤ 70 := by simp [isB] at h; omega

theorem hexW_4 {c : UInt8} (h : isB (c.toNat : Int) 4 = true) : hexW c = c.toNat - 48 := by simp [hexW, h]
theorem hexW_5 {c : UInt8} (h4 : isB (c.toNat : Int) 4 = false) (h : isB (c.toNat : Int) 5 = true) : hexW c = c.toNat - 87 := by simp [hexW, h4, h]
theorem hexW_6 {c : UInt8} (h4 : isB (c.toNat : Int) 4 = false) (h5 : isB (c.toNat : Int) 5 = false) : hexW c = c.toNat - 55 := by simp [hexW, h4, h5]

theorem hexW_lt {c : UInt8} (h : isHex c = true) : hexW c < 16 := by
  rcases isHex_cases h with h4 | ⟨h4, h5⟩ | ⟨h4, h5, h6⟩
  · have := isB4 h4; rw [hexW_4 h4]; omega
  · have := isB5 h5; rw [hexW_5 h4 h5]; omega
  · have := isB6 h6; rw [hexW_6 h4 h5]; omega

theorem hexs_get (s : ByteArray) (h : hexs s.data.toList = true) (k : Nat) (hk : k < s.size) : isHex s[k] = true := by
  have h1 := (List.all_eq_true.1 h) s[k] (by
    have e := len_list s
    have h' : k < s.data.toList.length := by omega
    exact List.getElem_mem h')
  exact h1

theorem hexs_snoc (s : ByteArray) (k : Nat) (h : k < s.size) (h0 : hexs (s.data.toList.take k) = true) (h2 : isHex s[k] = true) : hexs (s.data.toList.take (k + 1)) = true :=
  allB_snoc s [4, 5, 6] k h h0 (by rw [show anyB (s[k].toNat : Int) [4, 5, 6] = true from h2]; rfl)
theorem hexs_not (s : ByteArray) (k : Nat) (h : k < s.size) (h2 : isHex s[k] = false) : hexs s.data.toList = false :=
  allB_not s [4, 5, 6] k h (by rw [show anyB (s[k].toNat : Int) [4, 5, 6] = false from h2]; rfl)
theorem hexVal_step (s : ByteArray) (k : Nat) (h : k < s.size) : hexVal (s.data.toList.take (k + 1)) = hexVal (s.data.toList.take k) * 16 + hexW s[k] := by
  rw [take_snoc s k h, hexVal_snoc]

theorem hexVal_lt (s : ByteArray) (k : Nat) (hk : k ≤ s.size) (h : hexs (s.data.toList.take k) = true) : hexVal (s.data.toList.take k) < 16 ^ k := by
  induction k with
  | zero => simp [hexVal]
  | succ k ih =>
    have hk' : k < s.size := by omega
    have h1 : hexs (s.data.toList.take k) = true ∧ isHex s[k] = true := by
      rw [take_snoc s k hk'] at h
      simpa [hexs, allB, isHex] using h
    have := ih (by omega) h1.1
    have := hexW_lt h1.2
    rw [hexVal_step s k hk', Nat.pow_succ]
    omega

theorem pow16_le {k : Nat} (h : k ≤ 5) : 16 ^ k ≤ 1048576 := Nat.pow_le_pow_right (show 0 < 16 by decide) h

/-- What ParseHex answers. -/
def hexB (l : List UInt8) : Bool := decide (1 ≤ l.length) && (decide (l.length ≤ 4) && hexs l)
def parseHex (l : List UInt8) : Int × Bool := if hexB l then ((hexVal l : Int), true) else (0, false)
theorem parseHex_yes {s : ByteArray} (h : inB (s.size : Int) 1 4 = true) (hd : hexs s.data.toList = true) : parseHex s.data.toList = ((hexVal s.data.toList : Int), true) := by
  have e := len_list s
  have h1 : 1 ≤ s.size ∧ s.size ≤ 4 := by simp [inB] at h; omega
  apply if_pos
  simp only [hexB, hd, Bool.and_true, Bool.and_eq_true, decide_eq_true_eq]
  omega
theorem parseHex_size {s : ByteArray} (h : inB (s.size : Int) 1 4 = false) : parseHex s.data.toList = (0, false) := by
  have e := len_list s
  have h1 : ¬ (1 ≤ s.size ∧ s.size ≤ 4) := by simp [inB] at h; omega
  apply if_neg
  intro hp
  simp only [hexB, Bool.and_eq_true, decide_eq_true_eq] at hp
  omega
theorem parseHex_no {l : List UInt8} (h : hexs l = false) : parseHex l = (0, false) := by
  apply if_neg
  simp [hexB, h]

/-- The specification's digit: below 0 where it is none. -/
def hexOf (c : UInt8) : Int := if isHex c then (hexW c : Int) else -1
theorem hexOf_yes {c : UInt8} (h : isHex c = true) : hexOf c = (hexW c : Int) := if_pos h
theorem hexOf_no {c : UInt8} (h : isHex c = false) : hexOf c = -1 := if_neg (by simp [h])

end Go.Proofs.YtanebchmeaomgaaGreatDoor.M
namespace Go.Proofs.YtanebchmeaomgaaGreatDoor.M

/-- The code of a line's end at a place. -/
def endC (l : List UInt8) (k : Nat) : Int := if l.length ≤ k then 1 else if l.getD k 0 ≠ 13 then 400 else if l.length ≤ k + 1 then 1 else if l.getD (k + 1) 0 ≠ 10 then 400 else 0
/-- What stands ahead of the next byte 13. -/
def wordC (l : List UInt8) (a : Nat) : List UInt8 := (l.drop a).takeWhile (· != 13)
/-- The code of a size's line. -/
def szC (l : List UInt8) (a : Nat) : Int := if l.length ≤ a then 1 else if hexB (wordC l a) then endC l (a + (wordC l a).length) else 400
def szN (l : List UInt8) (a : Nat) : Nat := hexVal (wordC l a)
def szP (l : List UInt8) (a : Nat) : Nat := a + (wordC l a).length + 2
/-- The code of a piece, with so much room. -/
def pieceC (l : List UInt8) (a room : Nat) : Int := if szC l a ≠ 0 then szC l a else if room < szN l a then 413 else if l.length < szP l a + szN l a then 1 else endC l (szP l a + szN l a)
def pieceL (l : List UInt8) (a : Nat) : List UInt8 := (l.drop (szP l a)).take (szN l a)
/-- A body in pieces. -/
def getC : Nat → List UInt8 → Nat → List UInt8 → List UInt8 × Nat × Int
  | 0, _, _, _ => ([], 0, 413)
  | f + 1, l, a, body => if pieceC l a (200 - body.length) ≠ 0 then ([], 0, pieceC l a (200 - body.length)) else if szN l a = 0 then (body, szP l a + 2, 0) else getC f l (szP l a + szN l a + 2) (body ++ pieceL l a)
def chunksC (l : List UInt8) (a : Int) : List UInt8 × Nat × Int := if 0 ≤ a ∧ a ≤ l.length then getC 201 l a.toNat [] else ([], 0, 400)

theorem wordC_le (l : List UInt8) (a : Nat) : a + (wordC l a).length ≤ max a l.length := by
  have h : (wordC l a).length ≤ (l.drop a).length := (List.takeWhile_prefix _).length_le
  rw [List.length_drop] at h
  omega
theorem tw_step (m : List UInt8) : ∀ j (hj : j < m.length), j ≤ (m.takeWhile (· != 13)).length → m[j] ≠ 13 → j + 1 ≤ (m.takeWhile (· != 13)).length := by
  induction m with
  | nil => intro j hj; simp at hj
  | cons x m ih =>
    intro j hj h0 h1
    cases j with
    | zero =>
      have hx : (x != 13) = true := by rw [bne_iff_ne]; exact h1
      simp [hx]
    | succ j =>
      by_cases hx : (x != 13) = true
      · simp only [List.takeWhile_cons, hx, if_true, List.length_cons] at h0 ⊢
        have := ih j (by simpa using hj) (by omega) (by simpa using h1)
        omega
      · simp [hx] at h0
theorem tw_stop (m : List UInt8) : ∀ j (hj : j < m.length), j ≤ (m.takeWhile (· != 13)).length → m[j] = 13 → (m.takeWhile (· != 13)).length = j := by
  induction m with
  | nil => intro j hj; simp at hj
  | cons x m ih =>
    intro j hj h0 h1
    cases j with
    | zero =>
      have hx : ¬ (x != 13) = true := by rw [bne_iff_ne]; intro h; exact h h1
      simp [hx]
    | succ j =>
      by_cases hx : (x != 13) = true
      · simp only [List.takeWhile_cons, hx, if_true, List.length_cons] at h0 ⊢
        have := ih j (by simpa using hj) (by omega) (by simpa using h1)
        omega
      · simp [hx] at h0
theorem drop_at {l : List UInt8} {a j : Nat} (h : a + j < l.length) : (l.drop a)[j]'(by rw [List.length_drop]; omega) = l.getD (a + j) 0 := by
  rw [List.getElem_drop]; simp [List.getD, List.getElem?_eq_getElem h]
/-- The word goes on; it ends. -/
theorem wordC_step {l : List UInt8} {a j : Nat} (h : a + j < l.length) (h0 : j ≤ (wordC l a).length) (h1 : l.getD (a + j) 0 ≠ 13) : j + 1 ≤ (wordC l a).length :=
  tw_step (l.drop a) j (by rw [List.length_drop]; omega) h0 (by rw [drop_at h]; exact h1)
theorem wordC_stop {l : List UInt8} {a j : Nat} (h : a + j < l.length) (h0 : j ≤ (wordC l a).length) (h1 : l.getD (a + j) 0 = 13) : (wordC l a).length = j :=
  tw_stop (l.drop a) j (by rw [List.length_drop]; omega) h0 (by rw [drop_at h]; exact h1)
theorem wordC_last {l : List UInt8} {a j : Nat} (ha : a ≤ l.length) (h : ¬ a + j < l.length) (h0 : j ≤ (wordC l a).length) : (wordC l a).length = j := by
  have := wordC_le l a
  omega
theorem wordC_take (l : List UInt8) (a : Nat) : (l.drop a).take (wordC l a).length = wordC l a := List.prefix_iff_eq_take.1 (List.takeWhile_prefix _) |>.symm
/-- Behind the word stands the end of all, or a byte 13. -/
theorem wordC_end {l : List UInt8} {a : Nat} (h : a + (wordC l a).length < l.length) : l.getD (a + (wordC l a).length) 0 = 13 := by
  by_cases e : l.getD (a + (wordC l a).length) 0 = 13
  · exact e
  · have := wordC_step h (Nat.le_refl _) e
    omega
theorem szC_long {l : List UInt8} {a : Nat} (ha : a ≤ l.length) (h : 5 ≤ (wordC l a).length) : szC l a = 400 := by
  have h1 := wordC_le l a
  have : ¬ l.length ≤ a := by omega
  simp [szC, this, hexB]
  intro _ h2
  omega
end Go.Proofs.YtanebchmeaomgaaGreatDoor.M
namespace Go.Proofs.YtanebchmeaomgaaGreatDoor.M

/-- What stands ahead of the first byte c, and behind it. -/
def cut1 (c : UInt8) : List UInt8 → Option (List UInt8 × List UInt8)
  | [] => none
  | x :: r => if x = c then some ([], r) else (cut1 c r).map fun p => (x :: p.1, p.2)
/-- What stands ahead of the first line's end, and behind it. -/
def cut2 : List UInt8 → Option (List UInt8 × List UInt8)
  | [] => none
  | x :: r => if x = 13 ∧ r.head? = some 10 then some ([], r.drop 1) else (cut2 r).map fun p => (x :: p.1, p.2)
/-- What stands between line's ends. -/
def linesL : List UInt8 → List (List UInt8)
  | [] => [[]]
  | [x] => [[x]]
  | x :: y :: r => if x = 13 ∧ y = 10 then [] :: linesL r else (match linesL (y :: r) with | [] => [[x]] | l :: q => (x :: l) :: q)
/-- A head of its line. -/
def mkH (n v : List UInt8) : Hd := (bytesOf (lowL n), bytesOf (trimL v))
/-- The heads, one line behind the other, each with its end. -/
def headsI : Nat → List UInt8 → Option (List Hd)
  | 0, _ => none
  | f + 1, t => if t = [] then some [] else
    match cut1 58 t with
    | none => none
    | some (n, t1) => match cut2 t1 with
      | none => none
      | some (v, t2) => if hdB (mkH n v) then (headsI f t2).map (mkH n v :: ·) else none
/-- Lines that have each their end. -/
def readI (t : List UInt8) : Option (ByteArray × ByteArray × List Hd) :=
  match cut1 32 t with
  | none => none
  | some (m, t1) => if methB (bytesOf m) then
    match cut1 32 t1 with
    | none => none
    | some (p, t2) => if targB (bytesOf p) then
      match cut2 t2 with
      | none => none
      | some (v, t3) => if v = proto then (headsI (t3.length + 1) t3).map fun hs => (bytesOf m, bytesOf p, hs) else none
      else none
    else none
/-- A text, cut at every blank. -/
def cutsB (c : UInt8) : List UInt8 → List (List UInt8)
  | [] => [[]]
  | x :: r => if x = c then [] :: cutsB c r else (match cutsB c r with | [] => [[x]] | l :: q => (x :: l) :: q)
def firstS (l : List UInt8) : Option (ByteArray × ByteArray) :=
  match cutsB 32 l with
  | [m, p, v] => if v = proto ∧ methB (bytesOf m) = true ∧ targB (bytesOf p) = true then some (bytesOf m, bytesOf p) else none
  | _ => none
def headS (l : List UInt8) : Option Hd :=
  match cut1 58 l with
  | none => none
  | some (n, v) => if hdB (mkH n v) then some (mkH n v) else none
def headsS : List (List UInt8) → Option (List Hd)
  | [] => some []
  | l :: ls => match headS l with
    | none => none
    | some h => (headsS ls).map (h :: ·)
def readS (t : List UInt8) : Option (ByteArray × ByteArray × List Hd) :=
  match linesL t with
  | [] => none
  | l :: ls => match firstS l with
    | none => none
    | some (m, p) => (headsS ls).map fun hs => (m, p, hs)

theorem cut1_some {c : UInt8} : ∀ {l a b : List UInt8}, cut1 c l = some (a, b) ↔ l = a ++ c :: b ∧ c ∉ a := by
  intro l
  induction l with
  | nil => intro a b; simp [cut1]
  | cons x r ih =>
    intro a b
    rw [cut1]
    by_cases h : x = c
    · rw [if_pos h]
      subst h
      constructor
      · intro e; cases e; simp
      · rintro ⟨e, hn⟩
        cases a with
        | nil => simp at e; rw [e]
        | cons y q => simp at e; exact absurd (by simp [e.1]) hn
    · rw [if_neg h]
      constructor
      · intro e
        cases hc : cut1 c r with
        | none => rw [hc] at e; cases e
        | some p =>
          rw [hc] at e
          obtain ⟨a', b'⟩ := p
          obtain ⟨e1, e2⟩ := ih.1 hc
          cases e
          exact ⟨by simp [e1], by simp [e2, Ne.symm h]⟩
      · rintro ⟨e, hn⟩
        cases a with
        | nil => simp at e; exact absurd e.1 h
        | cons y q =>
          simp at e
          obtain ⟨rfl, e⟩ := e
          have := ih.2 ⟨e, fun hm => hn (by simp [hm])⟩
          rw [this]; rfl
theorem cut1_none {c : UInt8} {l : List UInt8} : cut1 c l = none ↔ c ∉ l := by
  induction l with
  | nil => simp [cut1]
  | cons x r ih =>
    rw [cut1]
    by_cases h : x = c
    · rw [if_pos h]; simp [h]
    · rw [if_neg h, Option.map_eq_none_iff, ih]; simp [Ne.symm h]

/-- There is no line's end in it. -/
def noEnd : List UInt8 → Prop
  | [] => True
  | [_] => True
  | x :: y :: r => ¬ (x = 13 ∧ y = 10) ∧ noEnd (y :: r)
theorem noEnd_tail {x : UInt8} {r : List UInt8} (h : noEnd (x :: r)) : noEnd r := by
  cases r with
  | nil => trivial
  | cons y q => exact h.2
theorem noEnd_of {l : List UInt8} (h : 13 ∉ l) : noEnd l := by
  induction l with
  | nil => trivial
  | cons x r ih =>
    cases r with
    | nil => trivial
    | cons y q => exact ⟨fun e => h (by simp [e.1]), ih (fun hm => h (by simp [hm]))⟩
theorem cut2_app : ∀ {a : List UInt8} (b : List UInt8), noEnd a → cut2 (a ++ 13 :: 10 :: b) = some (a, b) := by
  intro a
  induction a with
  | nil => intro b _; simp [cut2]
  | cons x r ih =>
    intro b h
    rw [List.cons_append, cut2, ih b (noEnd_tail h)]
    have : ¬ (x = 13 ∧ (r ++ 13 :: 10 :: b).head? = some 10) := by
      cases r with
      | nil => simp
      | cons y q => simpa using h.1
    rw [if_neg this]; rfl
theorem cut2_some : ∀ {l a b : List UInt8}, cut2 l = some (a, b) → l = a ++ 13 :: 10 :: b ∧ noEnd a := by
  intro l
  induction l with
  | nil => intro a b h; cases h
  | cons x r ih =>
    intro a b h
    rw [cut2] at h
    by_cases hx : x = 13 ∧ r.head? = some 10
    · rw [if_pos hx] at h
      cases h
      cases r with
      | nil => simp at hx
      | cons y q => simp at hx; exact ⟨by simp [hx.1, hx.2], trivial⟩
    · rw [if_neg hx] at h
      cases hc : cut2 r with
      | none => rw [hc] at h; cases h
      | some p =>
        rw [hc] at h
        obtain ⟨a', b'⟩ := p
        obtain ⟨e1, e2⟩ := ih hc
        cases h
        refine ⟨by simp [e1], ?_⟩
        cases a' with
        | nil => trivial
        | cons y q =>
          refine ⟨fun e => hx ⟨e.1, ?_⟩, e2⟩
          rw [e1, e.2]; rfl

/-- Lines, each with its end. -/
def flatE (L : List (List UInt8)) : List UInt8 := L.flatMap (· ++ [13, 10])
theorem linesL_ne (t : List UInt8) : linesL t ≠ [] := by
  match t with
  | [] => simp [linesL]
  | [x] => simp [linesL]
  | x :: y :: r =>
    rw [linesL]
    split
    · simp
    · split <;> simp
theorem linesL_flat : ∀ t : List UInt8, flatE (linesL t) = t ++ [13, 10] ∧ ∀ l ∈ linesL t, noEnd l
  | [] => by simp [linesL, flatE, noEnd]
  | [x] => by simp [linesL, flatE, noEnd]
  | x :: y :: r => by
    rw [linesL]
    by_cases h : x = 13 ∧ y = 10
    · rw [if_pos h]
      obtain ⟨h1, h2⟩ := linesL_flat r
      refine ⟨?_, ?_⟩
      · simp only [flatE, List.flatMap_cons, List.nil_append] at *
        rw [h1, h.1, h.2]; rfl
      · intro l hl
        rcases List.mem_cons.1 hl with rfl | hl
        · trivial
        · exact h2 l hl
    · rw [if_neg h]
      obtain ⟨h1, h2⟩ := linesL_flat (y :: r)
      cases hL : linesL (y :: r) with
      | nil => exact absurd hL (linesL_ne _)
      | cons l q =>
        rw [hL] at h1 h2
        refine ⟨?_, ?_⟩
        · simp only [flatE, List.flatMap_cons, List.cons_append] at *
          rw [h1]
        · intro k hk
          rcases List.mem_cons.1 hk with rfl | hk
          · cases l with
            | nil => trivial
            | cons z s =>
              refine ⟨fun e => h ⟨e.1, ?_⟩, h2 _ (by simp)⟩
              simp only [flatE, List.flatMap_cons, List.cons_append] at h1
              injection h1 with h3 _
              rw [← h3]; exact e.2
          · exact h2 k (by simp [hk])

theorem allB_no {l : List UInt8} {ks : List Int} (c : UInt8) (h : allB l ks = true) (hc : anyB (c.toNat : Int) ks = false) : c ∉ l := by
  intro hm
  have := List.all_eq_true.1 h c hm
  rw [hc] at this; cases this
theorem meth_no {m : List UInt8} (h : methB (bytesOf m) = true) : 13 ∉ m ∧ 32 ∉ m ∧ m ≠ [] := by
  simp only [methB, Bool.and_eq_true] at h
  refine ⟨allB_no 13 h.1 (by decide), allB_no 32 h.1 (by decide), ?_⟩
  rintro rfl
  have := h.2
  revert this
  decide
theorem targ_no {p : List UInt8} (h : targB (bytesOf p) = true) : 13 ∉ p ∧ 32 ∉ p ∧ p ≠ [] := by
  simp only [targB, Bool.and_eq_true] at h
  refine ⟨?_, ?_, ?_⟩
  · intro hm; have := List.all_eq_true.1 h.1 13 hm; revert this; decide
  · intro hm; have := List.all_eq_true.1 h.1 32 hm; revert this; decide
  · rintro rfl; have := h.2; revert this; decide

theorem cutsB_none {c : UInt8} {a : List UInt8} (h : c ∉ a) : cutsB c a = [a] := by
  induction a with
  | nil => rfl
  | cons x r ih =>
    have h1 : ¬ x = c := fun e => h (by simp [e])
    rw [cutsB, if_neg h1, ih (fun e => h (by simp [e]))]
theorem cutsB_app {c : UInt8} {a : List UInt8} (r : List UInt8) (h : c ∉ a) : cutsB c (a ++ c :: r) = a :: cutsB c r := by
  induction a with
  | nil => simp [cutsB]
  | cons x q ih =>
    have h1 : ¬ x = c := fun e => h (by simp [e])
    rw [List.cons_append, cutsB, if_neg h1, ih (fun e => h (by simp [e]))]
theorem cutsB_ne (c : UInt8) (l : List UInt8) : cutsB c l ≠ [] := by
  cases l with
  | nil => simp [cutsB]
  | cons x r =>
    rw [cutsB]
    split
    · simp
    · split <;> simp
/-- The first line: in three, by cutting one behind the other. -/
theorem firstS_eq (l : List UInt8) : firstS l =
    match cut1 32 l with
    | none => none
    | some (m, t1) => match cut1 32 t1 with
      | none => none
      | some (p, v) => if v = proto ∧ methB (bytesOf m) = true ∧ targB (bytesOf p) = true then some (bytesOf m, bytesOf p) else none := by
  unfold firstS
  cases h1 : cut1 32 l with
  | none => rw [cutsB_none (cut1_none.1 h1)]
  | some q =>
    obtain ⟨m, t1⟩ := q
    obtain ⟨rfl, hm⟩ := cut1_some.1 h1
    rw [cutsB_app t1 hm]
    cases h2 : cut1 32 t1 with
    | none => rw [cutsB_none (cut1_none.1 h2)]; simp [h2]
    | some q =>
      obtain ⟨p, v⟩ := q
      obtain ⟨rfl, hp⟩ := cut1_some.1 h2
      rw [cutsB_app v hp]
      simp only [h2]
      by_cases hv : 32 ∈ v
      · have hv2 : ¬ v = proto := by rintro rfl; revert hv; decide
        have hne : ∃ a b r, cutsB 32 v = a :: b :: r := by
          cases h3 : cut1 32 v with
          | none => exact absurd hv (cut1_none.1 h3)
          | some q =>
            obtain ⟨x, y⟩ := q
            obtain ⟨rfl, hx⟩ := cut1_some.1 h3
            rw [cutsB_app y hx]
            cases h4 : cutsB 32 y with
            | nil => exact absurd h4 (cutsB_ne _ _)
            | cons b r => exact ⟨_, _, _, rfl⟩
        obtain ⟨a, b, r, e⟩ := hne
        rw [e, if_neg (fun h => hv2 h.1)]
      · rw [cutsB_none hv]

theorem mem_low {c : UInt8} {n : List UInt8} (h : c ∈ n) (hc : lowB c = c) : c ∈ lowL n := by
  unfold lowL
  rw [List.mem_map]
  exact ⟨c, h, hc⟩
theorem sm_no13 {l : List UInt8} (h : smB l = true) : 13 ∉ l := by
  cases l with
  | nil => simp
  | cons c r =>
    simp only [smB, Bool.and_eq_true] at h
    exact allB_no 13 h.2 (by decide)
/-- A name with a line's end in it is none. -/
theorem hd_no13 {n v : List UInt8} (h : hdB (mkH n v) = true) : 13 ∉ n := by
  intro hm
  simp only [hdB, mkH, Bool.and_eq_true] at h
  exact sm_no13 (l := lowL n) h.1 (mem_low hm (by decide))

theorem cut1_in {c : UInt8} {l n v : List UInt8} (r : List UInt8) (h : cut1 c l = some (n, v)) : cut1 c (l ++ r) = some (n, v ++ r) := by
  obtain ⟨rfl, hn⟩ := cut1_some.1 h
  exact cut1_some.2 ⟨by simp, hn⟩
/-- What is found past a line's end has it in it. -/
theorem cut1_past {c : UInt8} {l F n t : List UInt8} (h1 : cut1 c l = none) (hc : c ≠ 13) (h : cut1 c (l ++ 13 :: 10 :: F) = some (n, t)) : 13 ∈ n := by
  have hn : c ∉ l := cut1_none.1 h1
  obtain ⟨e2, _⟩ := cut1_some.1 h
  rcases Nat.lt_or_ge l.length n.length with hlt | hge
  · have a1 : n.take (l.length + 1) = l ++ [13] := by
      have := congrArg (List.take (l.length + 1)) e2
      rw [List.take_append_of_le_length (l₁ := n) (by omega)] at this
      rw [← this, List.take_append, List.take_of_length_le (by omega)]
      simp
    have : 13 ∈ n.take (l.length + 1) := by rw [a1]; simp
    exact List.mem_of_mem_take this
  · exfalso
    rcases Nat.lt_or_ge n.length l.length with hlt | hge2
    · have := congrArg (fun z => z[n.length]?) e2
      simp only [List.getElem?_append_left hlt] at this
      have h3 : l[n.length]? = some c := by rw [this]; simp
      exact hn (List.mem_of_getElem? h3)
    · have h3 : n.length = l.length := by omega
      have := congrArg (fun z => z[n.length]?) e2
      rw [h3] at this
      simp only [List.getElem?_append_right (Nat.le_refl _)] at this
      rw [← h3] at this
      simp [h3] at this
      exact hc this.symm
theorem noEnd_drop {a b : List UInt8} (h : noEnd (a ++ b)) : noEnd b := by
  induction a with
  | nil => exact h
  | cons x r ih => exact ih (noEnd_tail h)

theorem headsI_lines : ∀ (L : List (List UInt8)) (f : Nat), (∀ l ∈ L, noEnd l) → (flatE L).length < f → headsI f (flatE L) = headsS L := by
  intro L
  induction L with
  | nil =>
    intro f _ hf
    obtain ⟨f, rfl⟩ : ∃ g, f = g + 1 := ⟨f - 1, by omega⟩
    simp [headsI, headsS, flatE]
  | cons l L ih =>
    intro f hL hf
    obtain ⟨f, rfl⟩ : ∃ g, f = g + 1 := ⟨f - 1, by omega⟩
    have e : flatE (l :: L) = l ++ 13 :: 10 :: flatE L := by simp [flatE]
    have hlen : (flatE (l :: L)).length = l.length + 2 + (flatE L).length := by rw [e]; simp; omega
    rw [headsI, if_neg (by rw [e]; simp), headsS, headS]
    cases h1 : cut1 58 l with
    | none =>
      simp only
      cases h2 : cut1 58 (flatE (l :: L)) with
      | none => rfl
      | some q =>
        obtain ⟨n, t1⟩ := q
        rw [e] at h2
        have h13 := cut1_past h1 (by decide) h2
        simp only
        cases h3 : cut2 t1 with
        | none => rfl
        | some q =>
          obtain ⟨v, t2⟩ := q
          simp only
          rw [if_neg (fun hh => hd_no13 hh h13)]
    | some q =>
      obtain ⟨n, v⟩ := q
      have h2 := cut1_in (13 :: 10 :: flatE L) h1
      obtain ⟨rfl, hn⟩ := cut1_some.1 h1
      have hv : noEnd v := noEnd_tail (noEnd_drop (a := n) (hL (n ++ 58 :: v) (by simp)))
      rw [e, h2]
      simp only
      rw [cut2_app _ hv]
      simp only
      by_cases hb : hdB (mkH n v) = true
      · rw [if_pos hb, if_pos hb, ih f (fun k hk => hL k (by simp [hk])) (by omega)]
      · rw [if_neg hb, if_neg hb]

/-- Both readings are one. -/
theorem readI_eq (t : List UInt8) : readI (t ++ [13, 10]) = readS t := by
  obtain ⟨h1, h2⟩ := linesL_flat t
  unfold readS
  cases hL : linesL t with
  | nil => exact absurd hL (linesL_ne _)
  | cons l L =>
    rw [hL] at h1 h2
    have e : t ++ [13, 10] = l ++ 13 :: 10 :: flatE L := by rw [← h1]; simp [flatE]
    have hl : noEnd l := h2 l (by simp)
    have hH := headsI_lines L ((flatE L).length + 1) (fun k hk => h2 k (by simp [hk])) (Nat.lt_succ_self _)
    simp only
    rw [firstS_eq, e]
    unfold readI
    cases c1 : cut1 32 l with
    | none =>
      simp only
      cases c2 : cut1 32 (l ++ 13 :: 10 :: flatE L) with
      | none => rfl
      | some q =>
        obtain ⟨m, t1⟩ := q
        have h13 := cut1_past c1 (by decide) c2
        simp only
        rw [if_neg (fun hh => (meth_no hh).1 h13)]
    | some q =>
      obtain ⟨m, l1⟩ := q
      rw [cut1_in (13 :: 10 :: flatE L) c1]
      obtain ⟨rfl, _⟩ := cut1_some.1 c1
      have hl1 : noEnd l1 := noEnd_tail (noEnd_drop (a := m) hl)
      simp only
      by_cases hm : methB (bytesOf m) = true
      · rw [if_pos hm]
        cases c2 : cut1 32 l1 with
        | none =>
          simp only
          cases c3 : cut1 32 (l1 ++ 13 :: 10 :: flatE L) with
          | none => rfl
          | some q =>
            obtain ⟨p, t2⟩ := q
            have h13 := cut1_past c2 (by decide) c3
            simp only
            rw [if_neg (fun hh => (targ_no hh).1 h13)]
        | some q =>
          obtain ⟨p, v⟩ := q
          rw [cut1_in (13 :: 10 :: flatE L) c2]
          obtain ⟨rfl, _⟩ := cut1_some.1 c2
          have hv : noEnd v := noEnd_tail (noEnd_drop (a := p) hl1)
          simp only
          by_cases hp : targB (bytesOf p) = true
          · rw [if_pos hp, cut2_app _ hv]
            simp only
            by_cases hpr : v = proto
            · rw [if_pos hpr, if_pos ⟨hpr, hm, hp⟩, hH]
            · rw [if_neg hpr, if_neg (fun h => hpr h.1)]
          · rw [if_neg hp, if_neg (fun h => hp h.2.2)]
      · rw [if_neg hm]
        cases c2 : cut1 32 l1 with
        | none => rfl
        | some q =>
          obtain ⟨p, v⟩ := q
          simp only
          rw [if_neg (fun h => hm h.2.1)]
end Go.Proofs.YtanebchmeaomgaaGreatDoor.M
