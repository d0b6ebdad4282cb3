/-
  What the laws' own markText does.
  Rows of heads that may be written, and what the laws' own helps do that mark them.
  What the laws' own helps do that mark the heads of an answer and look whether the marks are still there.
  Rows of heads that the call owns: marked, and looked at.
  The heads of an answer that the call owns: marked, and looked at.
  Whether two slices of bytes hold the same, by the laws' own help.
  What the laws' own helps do that mark bytes.
  Whether two lists of heads are the same, by the laws' own helps.
  Plain facts on requests that are the same, and on texts that are.
  Whether two answers are the same, by the laws' own help.
  What the laws' own helps on slices of bytes do: copies, the same.
  A slice of integers as the row hands it in.
-/
import Derived.Test.YtnoijfnpchihoabDoorRows
import Derived.Test.YtnoijfnpchihoabDoorMathQuote
import Derived.WalkKit
import Derived.WalkSpells
import Derived.WalkLawsBesides
import Derived.Deep.Light
import Derived.Laws.IdiomStrings
import Derived.Laws.BytesArg
import Derived.Test.YtnoijfnpchihoabDoorExtract
import Derived.Deep.RegionHeld3
import Derived.Test.YtnoijfnpchihoabDoorOwnHeads
import Derived.Test.YtnoijfnpchihoabDoorTells
import Derived.Test.YtnoijfnpchihoabDoorBoxResp
import Derived.Test.YtnoijfnpchihoabDoorMathEnd
import Derived.Test.YtnoijfnpchihoabDoorSpecVal
import Derived.Test.YtnoijfnpchihoabDoorNumText
import Derived.OpenShut
namespace Go.Proofs.YtnoijfnpchihoabDoor
open Go.RowKit M
set_option linter.unusedVariables false

def dg (m : Nat) : UInt8 := UInt8.ofNat (48 + m % 10)
/-- The digits of a number, the last behind. -/
def mtL (n : Nat) : List UInt8 := if h : n = 0 then [] else mtL (n / 10) ++ [dg n]
termination_by n
decreasing_by omega
/-- The mark of a number. -/
def mt (n : Nat) : ByteArray := bytesOf (109 :: mtL n)

theorem mtL_zero : mtL 0 = [] := by rw [mtL]; simp
theorem mtL_step (n : Nat) (h : 0 < n) : mtL n = mtL (n / 10) ++ [dg n] := by rw [mtL, dif_neg (by omega)]

theorem digit_nat (m : Nat) : ((dg m).toNat : Int) = 48 + (m : Int) % 10 := by
  unfold dg
  rw [UInt8.toNat_ofNat']
  omega

theorem conv_mark (w : World) (c : UInt8) : (convert 27 9 (.slice (some ⟨w.heap.size, 0, none⟩) 1 1)).run Tryd.prog (w.alloc (.cells #[.int .u8 c.toNat] 5)) = .ok (.string (bytesOf [c])) (w.alloc (.cells #[.int .u8 c.toNat] 5)) := by
  refine run_convert_bytes_back _ 27 9 5 _ 1 [c] Tryd.underlying27 Tryd.underlying5 Tryd.underlying9 ?_
  intro j hj
  have hj0 : j = 0 := by simp at hj; exact hj
  subst hj0
  simp [Addr.add]

set_option maxRecDepth 100000 in
set_option maxHeartbeats 1000000 in
theorem markText_any (k : Nat) (h1 : 1 ≤ k) (h2 : k ≤ 8000000) (w : World) :
    Calls Tryd.prog 57 #[.int .i64 k] w fun e w' => e = .returned (.string (mt k)) ∧ Below w.heap.size w w' := by
  have hk0 : ¬ k = 0 := by omega
  go_enter Tryd.func57, Tryd.ntmps57
  go_wp2
  go_loopw [0, 3] (fun kv ov wr => ∃ (m : Nat) (acc : List UInt8), kv = .int .i64 m ∧ ov = .string (bytesOf acc) ∧ mtL k = mtL m ++ acc ∧ acc.length + m ≤ k ∧ Below w.heap.size w wr) (fun kv _ _ => (intOf kv).toNat)
  case atStart => exact ⟨k, [], rfl, rfl, by simp, by simp, Below.refl _ _⟩
  case round =>
    obtain ⟨m, acc, rfl, rfl, hm, hle, hbe⟩ := hrel
    have HM : Hid (mtL k = mtL m ++ acc) := hm
    clear hm
    have hz : (bytesOf acc).size ≤ 8000000 := by rw [bytesOf_size]; omega
    by_cases h0 : 0 < m
    · have HS : Hid (mtL m = mtL (m / 10) ++ [dg m]) := mtL_step m h0
      have hcv := conv_mark wr (dg m)
      rw [digit_nat] at hcv
      have h0' : (0 : Int) < m := by omega
      have hz1 : (bytesOf [dg m]).size = 1 := by rw [bytesOf_size]; rfl
      have HD : Hid ((m : Int) / 10 = ((m / 10 : Nat) : Int)) := by show (m : Int) / 10 = ((m / 10 : Nat) : Int); omega
      have hd10 : m / 10 < m := by omega
      go_wp2
      go_roundw
      case rel => exact ⟨m / 10, [dg m] ++ acc, by rw [HD.out], by rw [← bytesOf_append], by rw [HM.out, HS.out, List.append_assoc], by simp; omega, hbe.alloc hbe.size _⟩
      case measure => simp [intOf]; omega
    · have hm0 : m = 0 := by omega
      subst hm0
      have HM2 : Hid (mtL k = acc) := by show mtL k = acc; rw [HM.out, mtL_zero]; rfl
      go_wp2
      go_ret
      refine ⟨?_, hbe⟩
      unfold mt
      rw [HM2.out]
      show Ending.returned (.string (bytesOf [109] ++ bytesOf acc)) = _
      rw [bytesOf_append]; rfl
end Go.Proofs.YtnoijfnpchihoabDoor
namespace Go.Proofs.YtnoijfnpchihoabDoor
open Go.RowKit M
set_option linter.unusedVariables false

/-- A row of heads in block g, none of them frozen. -/
def RowH (w : World) (g : Nat) (hs : List Hd) : Prop := g < w.heap.size ∧ ∀ j (hj : j < hs.length), w.cell? ⟨g, j * 2, none⟩ = some (.string hs[j].1) ∧ w.cell? ⟨g, j * 2 + 1, none⟩ = some (.string hs[j].2) ∧ w.frozen? ⟨g, j * 2, none⟩ = false ∧ w.frozen? ⟨g, j * 2 + 1, none⟩ = false
theorem RowH.hds {w : World} {g C : Nat} {hs : List Hd} (h : RowH w g hs) (hC : g < C) : Hds w C (some ⟨g, 0, none⟩) hs := fun _ => ⟨g, 0, rfl, hC, fun j hj => by rw [Nat.zero_add]; exact ⟨(h.2 j hj).1, (h.2 j hj).2.1⟩⟩
theorem RowH.of {w w' : World} {g : Nat} {hs : List Hd} (h : RowH w g hs) (hs' : w.heap.size ≤ w'.heap.size) (hb : w'.heap[g]? = w.heap[g]?) : RowH w' g hs := by
  have hc : ∀ o, w'.cell? ⟨g, o, none⟩ = w.cell? ⟨g, o, none⟩ := fun o => World.cell?_of_block (a := ⟨g, o, none⟩) hb
  have hf : ∀ o, w'.frozen? ⟨g, o, none⟩ = w.frozen? ⟨g, o, none⟩ := fun o => World.frozen?_of_block (a := ⟨g, o, none⟩) hb
  exact ⟨Nat.lt_of_lt_of_le h.1 hs', fun j hj => by rw [hc, hc, hf, hf]; exact h.2 j hj⟩
theorem RowH.next {w w' : World} {g : Nat} {hs : List Hd} (h : RowH w g hs) (hb : Below w.heap.size w w') : RowH w' g hs := h.of hb.size (hb.block g h.1)
theorem RowH.store {w : World} {g : Nat} {hs : List Hd} (h : RowH w g hs) (p : Addr) (v : Value) (hp : p.block ≠ g) : RowH (w.setCell p v) g hs := h.of (by simp) (heap_setCell_other w p g v (fun e => hp e.symm))

/-- A row of cells in block g, none of them frozen. -/
def RowC (w : World) (g n : Nat) : Prop := g < w.heap.size ∧ ∀ j, j < n → (∃ v, w.cell? ⟨g, j, none⟩ = some v) ∧ w.frozen? ⟨g, j, none⟩ = false
theorem RowH.row {w : World} {g : Nat} {hs : List Hd} (h : RowH w g hs) : RowC w g (hs.length * 2) := ⟨h.1, fun j hj => by
  have hq := h.2 (j / 2) (by omega)
  have e : j = j / 2 * 2 ∨ j = j / 2 * 2 + 1 := by omega
  rcases e with e | e <;> rw [e]
  · exact ⟨⟨_, hq.1⟩, hq.2.2.1⟩
  · exact ⟨⟨_, hq.2.1⟩, hq.2.2.2⟩⟩
theorem RowC.of {w w' : World} {g n : Nat} (h : RowC w g n) (hs' : w.heap.size ≤ w'.heap.size) (hb : w'.heap[g]? = w.heap[g]?) : RowC w' g n := by
  have hc : ∀ o, w'.cell? ⟨g, o, none⟩ = w.cell? ⟨g, o, none⟩ := fun o => World.cell?_of_block (a := ⟨g, o, none⟩) hb
  have hf : ∀ o, w'.frozen? ⟨g, o, none⟩ = w.frozen? ⟨g, o, none⟩ := fun o => World.frozen?_of_block (a := ⟨g, o, none⟩) hb
  exact ⟨Nat.lt_of_lt_of_le h.1 hs', fun j hj => by rw [hc, hf]; exact h.2 j hj⟩
theorem RowC.set {w : World} {g n : Nat} (h : RowC w g n) (o : Nat) (v : Value) : RowC (w.setCell ⟨g, o, none⟩ v) g n := ⟨by simpa using h.1, fun j hj => by
  obtain ⟨⟨u, hu⟩, hf⟩ := h.2 j hj
  refine ⟨?_, by rw [World.frozen?_setCell]; exact hf⟩
  by_cases e : o = j
  · subst e; exact ⟨v, World.cell?_setCell_same _ _ _ hu⟩
  · exact ⟨u, (World.cell?_setCell_other _ _ _ _ (fun e' => e (congrArg Addr.off e'))).trans hu⟩⟩
theorem grownG_refl (w : World) (g : Nat) : w.grownBy w (some g) := ⟨rfl, rfl, rfl, Nat.le_refl _, fun _ _ _ => rfl⟩
theorem grownG_next {w w1 w2 : World} {g : Nat} (h : w.grownBy w1 (some g)) (hb : Below w1.heap.size w1 w2) : w.grownBy w2 (some g) :=
  ⟨hb.os.trans h.os, hb.tape.trans h.tape, hb.output.trans h.output, Nat.le_trans h.size hb.size, fun k hk hne => (hb.block k (Nat.lt_of_lt_of_le hk h.size)).trans (h.block k hk hne)⟩
theorem grownG_set {w w1 : World} {g : Nat} (h : w.grownBy w1 (some g)) (o : Nat) (v : Value) : w.grownBy (w1.setCell ⟨g, o, none⟩ v) (some g) :=
  ⟨h.os, h.tape, h.output, by simpa using h.size, fun k hk hne => (heap_setCell_other w1 ⟨g, o, none⟩ k v (fun e => hne (by rw [e]))).trans (h.block k hk hne)⟩

set_option maxHeartbeats 2000000 in
theorem markHeadS_any (g n cap : Nat) (w : World) (h : RowC w g (n * 2)) (hn : n ≤ 1048576) :
    Calls Tryd.prog 35 #[.slice (some ⟨g, 0, none⟩) n cap, .int .i64 1] w fun e w' => e = .returned (.int .i64 (1 + (n : Int) * 2)) ∧ w.grownBy w' (some g) := by
  go_enter Tryd.func35, Tryd.ntmps35
  go_wp2
  go_loopw [1, 5] (fun kv i wr => ∃ j q : Nat, j ≤ n ∧ i = .int .i64 j ∧ kv = .int .i64 q ∧ q = 1 + j * 2 ∧ RowC wr g (n * 2) ∧ w.grownBy wr (some g)) (fun _ i _ => n - (intOf i).toNat)
  case atStart => exact ⟨0, 1, Nat.zero_le _, rfl, rfl, rfl, h, grownG_refl _ _⟩
  case round =>
    obtain ⟨j, q, hj, rfl, rfl, hq, hrow, hg⟩ := hrel
    have hq3 : q ≤ 3000000 := by omega
    have hq1 : 1 ≤ q := by omega
    have HQ := hide hq
    clear hq
    by_cases hlt : j < n
    · go_wp2_with fail
      refine (markText_any q hq1 (by omega) wr).mono ?_
      rintro e w1 ⟨rfl, b1⟩
      have hrow1 := hrow.of b1.size (b1.block g hrow.1)
      have g1 := grownG_next hg b1
      obtain ⟨⟨u0, k0⟩, f0⟩ := hrow1.2 (j * 2) (by omega)
      have hrow2 := hrow1.set (j * 2) (.string (mt q))
      have g2 := grownG_set g1 (j * 2) (.string (mt q))
      have H2 := hide hrow2
      have G2 := hide g2
      clear hrow hg b1 hrow1 g1 hrow2 g2
      go_wp2_with fail
      refine (markText_any (q + 1) (by omega) (by omega) _).mono ?_
      rintro e w2 ⟨rfl, b2⟩
      have hrow3 := H2.out.of b2.size (b2.block g H2.out.1)
      have g3 := grownG_next G2.out b2
      obtain ⟨⟨u1, k1⟩, f1⟩ := hrow3.2 (j * 2 + 1) (by omega)
      have hrow4 := hrow3.set (j * 2 + 1) (.string (mt (q + 1)))
      have g4 := grownG_set g3 (j * 2 + 1) (.string (mt (q + 1)))
      have H4 := hide hrow4
      have G4 := hide g4
      clear H2 G2 b2 hrow3 g3 hrow4 g4
      go_wp2
      go_roundw
      case rel => exact ⟨j + 1, q + 1 + 1, by omega, by go_num, by go_num, by have := HQ.out; omega, H4.out, G4.out⟩
      case measure => simp [intOf]; omega
    · go_wp2
      go_ret
      have hjn : j = n := by omega
      subst hjn
      exact ⟨by rw [HQ.out, show ((1 + j * 2 : Nat) : Int) = 1 + (j : Int) * 2 by omega]; rfl, hg⟩

set_option maxHeartbeats 400000 in
theorem markReq_any (g cap : Nat) (r : Rq) (w : World) (h : RowH w g r.hs) (hn : r.hs.length ≤ 1048576) :
    Calls Tryd.prog 14 #[.agg #[.string r.m, .string r.p, .slice (some ⟨g, 0, none⟩) r.hs.length cap, .string r.b], .int .i64 1] w fun e w' => e = .returned (.int .i64 (1 + (r.hs.length : Int) * 2)) ∧ w.grownBy w' (some g) := by
  have hr := (h.of (w' := w.alloc (Obj.cells #[.string r.m, .string r.p, .slice (some ⟨g, 0, none⟩) r.hs.length cap, .string r.b] 31)) (by simp) (((Below.refl w.heap.size w).alloc (Nat.le_refl _) _).block g h.1)).row
  have hM := markHeadS_any g r.hs.length cap _ hr hn
  have hg0 : w.grownBy (w.alloc (Obj.cells #[.string r.m, .string r.p, .slice (some ⟨g, 0, none⟩) r.hs.length cap, .string r.b] 31)) (some g) := grownG_next (grownG_refl w g) ((Below.refl w.heap.size w).alloc (Nat.le_refl _) _)
  have HG0 := hide hg0
  clear hg0 hr
  go_enter Tryd.func14, Tryd.ntmps14
  go_wp2_with fail
  refine hM.mono ?_
  rintro e w1 ⟨rfl, g1⟩
  have G1 := hide g1
  clear hM g1
  go_wp2
  go_ret
  exact ⟨rfl, ⟨G1.out.os.trans HG0.out.os, G1.out.tape.trans HG0.out.tape, G1.out.output.trans HG0.out.output, Nat.le_trans HG0.out.size G1.out.size, fun k hk hne => (G1.out.block k (Nat.lt_of_lt_of_le hk HG0.out.size) hne).trans (HG0.out.block k hk hne)⟩⟩
end Go.Proofs.YtnoijfnpchihoabDoor
namespace Go.Proofs.YtnoijfnpchihoabDoor
open Go.RowKit M
set_option linter.unusedVariables false

/-- A row of marks in block g, none of them frozen. -/
def RowM (w : World) (g n : Nat) : Prop := g < w.heap.size ∧ ∀ j, j < n → w.cell? ⟨g, j, none⟩ = some (.string (mt (1 + j))) ∧ w.frozen? ⟨g, j, none⟩ = false
theorem RowM.of {w w' : World} {g n : Nat} (h : RowM w g n) (hs' : w.heap.size ≤ w'.heap.size) (hb : w'.heap[g]? = w.heap[g]?) : RowM w' g n := by
  have hc : ∀ o, w'.cell? ⟨g, o, none⟩ = w.cell? ⟨g, o, none⟩ := fun o => World.cell?_of_block (a := ⟨g, o, none⟩) hb
  have hf : ∀ o, w'.frozen? ⟨g, o, none⟩ = w.frozen? ⟨g, o, none⟩ := fun o => World.frozen?_of_block (a := ⟨g, o, none⟩) hb
  exact ⟨Nat.lt_of_lt_of_le h.1 hs', fun j hj => by rw [hc, hf]; exact h.2 j hj⟩
theorem RowM.next {w w' : World} {g n : Nat} (h : RowM w g n) (hb : Below w.heap.size w w') : RowM w' g n := h.of hb.size (hb.block g h.1)
/-- The first ones are marked. -/
def Marked (w : World) (g n : Nat) : Prop := ∀ j, j < n → w.cell? ⟨g, j, none⟩ = some (.string (mt (1 + j)))
theorem Marked.next {w w' : World} {g n : Nat} (h : Marked w g n) (hg : g < w.heap.size) (hb : Below w.heap.size w w') : Marked w' g n := fun j hj => by rw [hb.cell (p := ⟨g, j, none⟩) hg]; exact h j hj
theorem Marked.set {w : World} {g n : Nat} (h : Marked w g n) {u : Value} (hc : w.cell? ⟨g, n, none⟩ = some u) (x : ByteArray) (hx : x = mt (1 + n)) : Marked (w.setCell ⟨g, n, none⟩ (.string x)) g (n + 1) := fun j hj => by
  by_cases e : n = j
  · subst e; rw [World.cell?_setCell_same _ _ _ hc, hx]
  · rw [World.cell?_setCell_other _ _ _ _ (fun e' => e (congrArg Addr.off e'))]
    exact h j (by omega)

set_option maxHeartbeats 2000000 in
theorem markHeadS_marks (g n cap : Nat) (w : World) (h : RowC w g (n * 2)) (hn : n ≤ 1048576) :
    Calls Tryd.prog 35 #[.slice (some ⟨g, 0, none⟩) n cap, .int .i64 1] w fun e w' => e = .returned (.int .i64 (1 + (n : Int) * 2)) ∧ RowM w' g (n * 2) ∧ w.grownBy w' (some g) := by
  go_enter Tryd.func35, Tryd.ntmps35
  go_wp2
  go_loopw [1, 5] (fun kv i wr => ∃ j q : Nat, j ≤ n ∧ i = .int .i64 j ∧ kv = .int .i64 q ∧ q = 1 + j * 2 ∧ RowC wr g (n * 2) ∧ Marked wr g (j * 2) ∧ w.grownBy wr (some g)) (fun _ i _ => n - (intOf i).toNat)
  case atStart => exact ⟨0, 1, Nat.zero_le _, rfl, rfl, rfl, h, fun j hj => absurd hj (by omega), grownG_refl _ _⟩
  case round =>
    obtain ⟨j, q, hj, rfl, rfl, hq, hrow, hmk, hg⟩ := hrel
    have hq3 : q ≤ 3000000 := by omega
    have hq1 : 1 ≤ q := by omega
    have HQ := hide hq
    clear hq
    by_cases hlt : j < n
    · go_wp2_with fail
      refine (markText_any q hq1 (by omega) wr).mono ?_
      rintro e w1 ⟨rfl, b1⟩
      have hrow1 := hrow.of b1.size (b1.block g hrow.1)
      have hmk1 := hmk.next hrow.1 b1
      have g1 := grownG_next hg b1
      obtain ⟨⟨u0, k0⟩, f0⟩ := hrow1.2 (j * 2) (by omega)
      have hrow2 := hrow1.set (j * 2) (.string (mt q))
      have hmk2 := hmk1.set k0 (mt q) (by rw [HQ.out])
      have g2 := grownG_set g1 (j * 2) (.string (mt q))
      have H2 := hide hrow2
      have M2 := hide hmk2
      have G2 := hide g2
      clear hrow hg b1 hrow1 g1 hrow2 g2 hmk hmk1 hmk2
      go_wp2_with fail
      refine (markText_any (q + 1) (by omega) (by omega) _).mono ?_
      rintro e w2 ⟨rfl, b2⟩
      have hrow3 := H2.out.of b2.size (b2.block g H2.out.1)
      have hmk3 := M2.out.next H2.out.1 b2
      have g3 := grownG_next G2.out b2
      obtain ⟨⟨u1, k1⟩, f1⟩ := hrow3.2 (j * 2 + 1) (by omega)
      have hrow4 := hrow3.set (j * 2 + 1) (.string (mt (q + 1)))
      have hmk4 := hmk3.set k1 (mt (q + 1)) (by rw [HQ.out]; congr 1)
      have g4 := grownG_set g3 (j * 2 + 1) (.string (mt (q + 1)))
      have H4 := hide hrow4
      have M4 := hide hmk4
      have G4 := hide g4
      clear H2 G2 M2 b2 hrow3 g3 hrow4 g4 hmk3 hmk4
      go_wp2
      go_roundw
      case rel => exact ⟨j + 1, q + 1 + 1, by omega, by go_num, by go_num, by have := HQ.out; omega, H4.out, by have := M4.out; rwa [show j * 2 + 1 + 1 = (j + 1) * 2 by omega] at this, G4.out⟩
      case measure => simp [intOf]; omega
    · go_wp2
      go_ret
      have hjn : j = n := by omega
      subst hjn
      exact ⟨by rw [HQ.out, show ((1 + j * 2 : Nat) : Int) = 1 + (j : Int) * 2 by omega]; rfl, ⟨hrow.1, fun i hi => ⟨hmk i hi, (hrow.2 i hi).2⟩⟩, hg⟩
set_option maxHeartbeats 400000 in
theorem markHeadS_none (a : Option Addr) (cap : Nat) (w : World) :
    Calls Tryd.prog 35 #[.slice a 0 cap, .int .i64 1] w fun e w' => e = .returned (.int .i64 1) ∧ w' = w := by
  go_enter Tryd.func35, Tryd.ntmps35
  go_wp2
  go_loopw [1, 5] (fun kv i wr => i = .int .i64 0 ∧ kv = .int .i64 1 ∧ wr = w) (fun _ i _ => 0)
  case atStart => exact ⟨rfl, rfl, rfl⟩
  case round =>
    obtain ⟨rfl, rfl, rfl⟩ := hrel
    go_wp2
    go_ret
    exact ⟨rfl, rfl⟩
set_option maxHeartbeats 400000 in
theorem heldHeadS_none (a : Option Addr) (cap : Nat) (w : World) :
    Calls Tryd.prog 48 #[.slice a 0 cap, .int .i64 1] w fun e w' => e = .returned (.int .i64 1) ∧ w' = w := by
  go_enter Tryd.func48, Tryd.ntmps48
  go_wp2
  go_loopw [1, 5] (fun kv i wr => i = .int .i64 0 ∧ kv = .int .i64 1 ∧ wr = w) (fun _ i _ => 0)
  case atStart => exact ⟨rfl, rfl, rfl⟩
  case round =>
    obtain ⟨rfl, rfl, rfl⟩ := hrel
    go_wp2
    go_ret
    exact ⟨rfl, rfl⟩

set_option maxHeartbeats 4000000 in
set_option maxRecDepth 100000 in
theorem heldHeadS_any (g n cap : Nat) (hn : n ≤ 1048576) (w : World) (h : RowM w g (n * 2)) :
    Calls Tryd.prog 48 #[.slice (some ⟨g, 0, none⟩) n cap, .int .i64 1] w fun e w' => e = .returned (.int .i64 (1 + (n : Int) * 2)) ∧ Below w.heap.size w w' := by
  have HR0 := hide h
  clear h
  go_enter Tryd.func48, Tryd.ntmps48
  go_wp2
  go_loopw [1, 5] (fun kv i wr => ∃ j q : Nat, j ≤ n ∧ i = .int .i64 j ∧ kv = .int .i64 q ∧ q = 1 + j * 2 ∧ Below w.heap.size w wr) (fun _ i _ => n - (intOf i).toNat)
  case atStart => exact ⟨0, 1, Nat.zero_le _, rfl, rfl, rfl, Below.refl _ _⟩
  case round =>
    obtain ⟨j, q, hj, rfl, rfl, hq, hbe⟩ := hrel
    have hq3 : q ≤ 3000000 := by omega
    have hq1 : 1 ≤ q := by omega
    have HQ := hide hq
    by_cases hlt : j < n
    · have HM := hide (fun W => markText_any q hq1 (by omega) W)
      have HM2 := hide (fun W => markText_any (q + 1) (by omega) (by omega) W)
      have HR := hide (HR0.out.next hbe)
      have hcx := (HR.out.2 (j * 2) (by omega)).1
      have hcy := (HR.out.2 (j * 2 + 1) (by omega)).1
      have e1 : 1 + j * 2 = q := by omega
      have e2 : 1 + (j * 2 + 1) = q + 1 := by omega
      rw [e1] at hcx
      rw [e2] at hcy
      have hg1 := HR.out.1
      have hi0 : (0 : Int) ≤ (j : Int) := by omega
      have hi1 : (j : Int) < (n : Int) := by omega
      clear hq e1 e2
      go_wp2
      go_region_held3 (fun w' => w'.cell? ⟨g, j * 2, none⟩ = some (.string (mt q)) ∧ w'.cell? ⟨g, j * 2 + 1, none⟩ = some (.string (mt (q + 1)))) (first | go_keep | (exact ⟨(b1.cell (p := ⟨g, j * 2, none⟩) (by first | omega | (simp; omega))).trans (by assumption), (b1.cell (p := ⟨g, j * 2 + 1, none⟩) (by first | omega | (simp; omega))).trans (by assumption)⟩)) ((go_at_call 57; refine (HM.out _).mono ?_; rintro e w1 ⟨rfl, b1⟩))
      all_goals
        have hb1 : Below wr.heap.size wr w1 := ((Below.refl wr.heap.size wr).drew).trans b1
        have hcz := (hb1.cell (p := ⟨g, j * 2 + 1, none⟩) hg1).trans hcy
        have hc1 := hbe.trans (hb1.mono hbe.size)
        have hg2 : g < w1.heap.size := Nat.lt_of_lt_of_le hg1 hb1.size
        clear b1
        go_wp2
        go_region_held3 (fun w' => w'.cell? ⟨g, j * 2 + 1, none⟩ = some (.string (mt (q + 1)))) (first | go_keep | (exact (b2.cell (p := ⟨g, j * 2 + 1, none⟩) (by first | omega | (simp; omega))).trans (by assumption))) ((go_at_call 57; refine (HM2.out _).mono ?_; rintro e w2 ⟨rfl, b2⟩))
        all_goals
          have hb2 : Below w1.heap.size w1 w2 := ((Below.refl w1.heap.size w1).drew).trans b2
          go_wp2
          go_roundw
          case rel => exact ⟨j + 1, q + 1 + 1, by omega, by go_num, by go_num, by have := HQ.out; omega, hc1.trans (hb2.mono hc1.size)⟩
          case measure => simp [intOf]; omega
    · have hjn : j = n := by omega
      subst hjn
      go_wp2
      go_ret
      exact ⟨by rw [HQ.out, show ((1 + j * 2 : Nat) : Int) = 1 + (j : Int) * 2 by omega]; rfl, hbe⟩
end Go.Proofs.YtnoijfnpchihoabDoor
namespace Go.Proofs.YtnoijfnpchihoabDoor
open Go.RowKit M
set_option linter.unusedVariables false

/-- The heads of this slice are marked. -/
def HeldV (w : World) (v : Value) (n : Nat) : Prop := (v = .slice none 0 0 ∧ n = 0) ∨ ∃ g c, v = .slice (some ⟨g, 0, none⟩) n c ∧ RowM w g (n * 2)
theorem HeldV.next {w w' : World} {v : Value} {n : Nat} (h : HeldV w v n) (hb : Below w.heap.size w w') : HeldV w' v n := by
  rcases h with h | ⟨g, c, e, h⟩
  · exact .inl h
  · exact .inr ⟨g, c, e, h.next hb⟩
theorem RowsH.same {w w' : World} {B : Nat} {v : Value} {hs : List Hd} (h : RowsH w B v hs) (hb : ∀ k, B ≤ k → k < w.heap.size → w'.heap[k]? = w.heap[k]?) : RowsH w' B v hs := by
  refine ⟨h.1, ?_⟩
  rcases h.2 with h | ⟨g, cap, cur, e, hB, hh, hr⟩
  · exact .inl h
  · exact .inr ⟨g, cap, cur, e, hB, (hb g hB (Array.getElem?_eq_some_iff.1 hh).1).trans hh, hr⟩
theorem row_of_own {w : World} {B g n cap : Nat} {hs : List Hd} (h : RowsH w B (.slice (some ⟨g, 0, none⟩) n cap) hs) : n = hs.length ∧ RowC w g (hs.length * 2) ∧ B ≤ g := by
  rcases h.2 with ⟨h, _⟩ | ⟨g', cap', cur, e, hB, hh, h1, h2, h3, h4⟩
  · cases h
  · cases e
    refine ⟨rfl, ⟨(Array.getElem?_eq_some_iff.1 hh).1, fun j hj => ?_⟩, hB⟩
    have hj2 : j < cur.size := by
      have : hs.length * 2 ≤ cap * 2 := Nat.mul_le_mul_right _ h1
      omega
    refine ⟨⟨cur[j], ?_⟩, ?_⟩
    · unfold World.cell?; rw [hh]; simp [Array.getElem?_eq_getElem hj2]
    · unfold World.frozen?; rw [hh]; simp
theorem markV (v : Value) (hs : List Hd) (B : Nat) (w : World) (h : RowsH w B v hs) (hn : hs.length ≤ 1048576) :
    Calls Tryd.prog 35 #[v, .int .i64 1] w fun e w' => e = .returned (.int .i64 (1 + (hs.length : Int) * 2)) ∧ HeldV w' v hs.length ∧ w.grownBy w' v.ownBlock := by
  rcases h.2 with ⟨h1, h0⟩ | ⟨g, cap, cur, e, hB, hh, hr⟩
  · subst h1
    refine (markHeadS_none none 0 w).mono ?_
    rintro e w' ⟨rfl, rfl⟩
    rw [h0]
    exact ⟨rfl, .inl ⟨rfl, rfl⟩, rfl, rfl, rfl, Nat.le_refl _, fun _ _ _ => rfl⟩
  · subst e
    obtain ⟨_, hrow, _⟩ := row_of_own h
    refine (markHeadS_marks g hs.length cap w hrow hn).mono ?_
    rintro e w' ⟨rfl, hm, hg⟩
    exact ⟨rfl, .inr ⟨g, cap, rfl, hm⟩, hg⟩
theorem heldV (v : Value) (n : Nat) (w : World) (h : HeldV w v n) (hn : n ≤ 1048576) :
    Calls Tryd.prog 48 #[v, .int .i64 1] w fun e w' => e = .returned (.int .i64 (1 + (n : Int) * 2)) ∧ Below w.heap.size w w' := by
  rcases h with ⟨rfl, rfl⟩ | ⟨g, c, rfl, hm⟩
  · refine (heldHeadS_none none 0 w).mono ?_
    rintro e w' ⟨rfl, rfl⟩
    exact ⟨rfl, Below.refl _ _⟩
  · exact heldHeadS_any g n c hn w hm
end Go.Proofs.YtnoijfnpchihoabDoor
namespace Go.Proofs.YtnoijfnpchihoabDoor
open Go.RowKit M
set_option linter.unusedVariables false

theorem grown_before {w w0 w' : World} {o : Option Nat} (h : w0.grownBy w' o) (hb : Below w.heap.size w w0) : w.grownBy w' o :=
  ⟨h.os.trans hb.os, h.tape.trans hb.tape, h.output.trans hb.output, Nat.le_trans hb.size h.size, fun k hk hne => (h.block k (Nat.lt_of_lt_of_le hk hb.size) hne).trans (hb.block k hk)⟩
set_option maxHeartbeats 400000 in
theorem markResp_own (r : Rs) (a : Option Addr) (c B : Nat) (w : World) (h : RowsH w B (.slice a r.hs.length c) r.hs) (hn : r.hs.length ≤ 1048576) :
    Calls Tryd.prog 23 #[.agg #[.int .i64 r.c, .slice a r.hs.length c, .string r.b], .int .i64 1] w fun e w' => e = .returned (.int .i64 (1 + (r.hs.length : Int) * 2)) ∧ HeldV w' (.slice a r.hs.length c) r.hs.length ∧ w.grownBy w' (Value.slice a r.hs.length c).ownBlock := by
  have hb0 : Below w.heap.size w (w.alloc (Obj.cells #[.int .i64 r.c, .slice a r.hs.length c, .string r.b] 46)) := (Below.refl _ _).alloc (Nat.le_refl _) _
  have HM := hide (markV _ r.hs B _ (ownsH_below h hb0) hn)
  have HB0 := hide hb0
  clear h hb0
  go_enter Tryd.func23, Tryd.ntmps23
  go_wp2_with fail
  refine HM.out.mono ?_
  rintro e w1 ⟨rfl, h1, g1⟩
  have H1 := hide h1
  have G1 := hide (grown_before g1 HB0.out)
  clear HM g1 h1
  go_wp2
  go_ret
  exact ⟨rfl, H1.out, G1.out⟩
set_option maxHeartbeats 400000 in
theorem heldResp_own (r : Rs) (a : Option Addr) (c : Nat) (w : World) (h : HeldV w (.slice a r.hs.length c) r.hs.length) (hn : r.hs.length ≤ 1048576) :
    Calls Tryd.prog 27 #[.agg #[.int .i64 r.c, .slice a r.hs.length c, .string r.b], .int .i64 1] w fun e w' => e = .returned (.int .i64 (1 + (r.hs.length : Int) * 2)) ∧ Below w.heap.size w w' := by
  have hb0 : Below w.heap.size w (w.alloc (Obj.cells #[.int .i64 r.c, .slice a r.hs.length c, .string r.b] 46)) := (Below.refl _ _).alloc (Nat.le_refl _) _
  have HM := hide (heldV _ r.hs.length _ (h.next hb0) hn)
  have HB0 := hide hb0
  have hnn : ¬ (1 + (r.hs.length : Int) * 2 < 0) := by omega
  clear h hb0
  go_enter Tryd.func27, Tryd.ntmps27
  go_wp2_with fail
  refine HM.out.mono ?_
  rintro e w1 ⟨rfl, b1⟩
  have C1 := hide (HB0.out.trans (b1.mono HB0.out.size))
  clear HM b1
  go_wp2
  go_ret
  exact ⟨rfl, C1.out⟩
end Go.Proofs.YtnoijfnpchihoabDoor
namespace Go.Proofs.YtnoijfnpchihoabDoor
open Go.RowKit
set_option linter.unusedVariables false

def sameY (l m : List UInt8) : Bool := decide (l = m)
theorem sameY_refl (l : List UInt8) : sameY l l = true := by simp [sameY]
theorem sameY_len {l m : List UInt8} (h : ¬ l.length = m.length) : sameY l m = false := by
  simp only [sameY, decide_eq_false_iff_not]; intro e; exact h (by rw [e])
theorem sameY_not {l m : List UInt8} (k : Nat) (h1 : k < l.length) (h2 : k < m.length) (h : ¬ l[k] = m[k]) : sameY l m = false := by
  simp only [sameY, decide_eq_false_iff_not]; intro e; subst e; exact h rfl
theorem sameY_all {l m : List UInt8} (hl : l.length = m.length) (k : Nat) (hk : ¬ k < l.length) (h : l.take k = m.take k) : sameY l m = true := by
  rw [List.take_of_length_le (by omega), List.take_of_length_le (by omega)] at h
  simp [sameY, h]
theorem take_sameY {l m : List UInt8} (k : Nat) (h1 : k < l.length) (h2 : k < m.length) (h0 : l.take k = m.take k) (h : l[k] = m[k]) : l.take (k + 1) = m.take (k + 1) := by
  rw [List.take_succ_eq_append_getElem h1, List.take_succ_eq_append_getElem h2, h0, h]

set_option maxHeartbeats 400000 in
theorem eqByteS_any (a b : Option Addr) (l m : List UInt8) (cap cap' B C : Nat) (w : World) (h : Byt w B a l) (h' : Byt w C b m) (hl : l.length ≤ maxLen) (hl' : m.length ≤ maxLen) :
    Calls Tryd.prog 11 #[.slice a l.length cap, .slice b m.length cap'] w fun e w' => e = .returned (.bool (sameY l m)) ∧ ∀ D, Below D w w' := by
  unfold maxLen at hl hl'
  by_cases hlen : l.length = m.length
  · have HL : Hid (l.length = m.length) := hlen
    go_enter Tryd.func11, Tryd.ntmps11
    rw [← hlen]
    clear hlen
    go_wp2
    go_loopw [5] (fun i wr => ∃ k n : Nat, k ≤ l.length ∧ i = .int .i64 k ∧ l.take k = m.take k ∧ wr = w.drewN n) (fun i _ => l.length - (intOf i).toNat)
    case atStart => exact ⟨0, 0, Nat.zero_le _, rfl, rfl, rfl⟩
    case round =>
      obtain ⟨k, n, hk, rfl, ht, rfl⟩ := hrel
      have HT : Hid (l.take k = m.take k) := ht
      clear ht
      by_cases hlt : k < l.length
      · have hlt' : k < m.length := by have := HL.out; omega
        obtain ⟨b1, o1, rfl, hb1, hc1⟩ := h (by omega)
        obtain ⟨b2, o2, rfl, hb2, hc2⟩ := h' (by have := HL.out; omega)
        have hcx := hc1 k hlt
        have hcy := hc2 k hlt'
        by_cases he : l[k] = m[k]
        · have e1 : (((l[k]).toNat : Int) != (m[k]).toNat) = false := by rw [he]; simp
          have HE : Hid (l[k] = m[k]) := he
          clear he
          go_wp2
          go_quiet (fail)
          go_wp2
          go_roundw
          case rel => exact ⟨k + 1, n + nq, by omega, by go_num, take_sameY k hlt hlt' HT.out HE.out, rfl⟩
          case measure => simp [intOf]; omega
        · have e1 : (((l[k]).toNat : Int) != (m[k]).toNat) = true := by
            rw [bne_iff_ne]; intro e; exact he (UInt8.toNat_inj.1 (by omega))
          have HE : Hid (sameY l m = false) := sameY_not k hlt hlt' he
          clear he
          go_wp2
          go_quiet (fail)
          go_wp2
          go_ret
          exact ⟨ret_bool HE.out.symm, fun D => below_drewN (below_drewN (Below.refl _ _) _) _⟩
      · go_wp2
        go_ret
        exact ⟨ret_bool (sameY_all HL.out k hlt HT.out).symm, fun D => below_drewN (Below.refl _ _) _⟩
  · have HS := sameY_len hlen
    go_enter Tryd.func11, Tryd.ntmps11
    go_wp2
    go_ret
    exact ⟨ret_bool HS.symm, fun D => Below.refl _ _⟩
end Go.Proofs.YtnoijfnpchihoabDoor
namespace Go.Proofs.YtnoijfnpchihoabDoor
open Go.RowKit M
set_option linter.unusedVariables false

theorem OwnY.row {w : World} {B : Nat} {v : Value} {l : List UInt8} (h : OwnY w B v l) : ∃ g c, v = .slice (some ⟨g, 0, none⟩) l.length c ∧ B ≤ g ∧ RowC w g l.length := by
  obtain ⟨g, cap, cur, fz, hv, hB, hg, hfz, h1, h2, h3, h4⟩ := h
  refine ⟨g, cap, hv, hB, (Array.getElem?_eq_some_iff.1 hg).1, fun j hj => ⟨⟨cur[j]'(by omega), by simp [World.cell?, hg, show j < cur.size by omega]⟩, ?_⟩⟩
  obtain ⟨lo, hi⟩ := fz
  simp only [World.frozen?, hg, Bool.and_eq_false_iff, decide_eq_false_iff_not]
  simp only at hfz
  omega

def bm (j : Nat) : Int := ((j + 1) % 256 : Nat)
/-- The row in block g holds n marks. -/
def Bms (w : World) (g n : Nat) : Prop := g < w.heap.size ∧ ∀ j, j < n → w.cell? ⟨g, j, none⟩ = some (.int .u8 (bm j))
theorem Bms.of {w w' : World} {g n : Nat} (h : Bms w g n) (hs : w.heap.size ≤ w'.heap.size) (hb : w'.heap[g]? = w.heap[g]?) : Bms w' g n := ⟨Nat.lt_of_lt_of_le h.1 hs, fun j hj => (World.cell?_of_block (a := ⟨g, j, none⟩) hb).trans (h.2 j hj)⟩
theorem Bms.next {w w' : World} {g n : Nat} (h : Bms w g n) (hb : Below w.heap.size w w') : Bms w' g n := h.of hb.size (hb.block g h.1)
theorem Bms.snoc {w : World} {g n k : Nat} (h : Bms w g k) (hr : RowC w g n) (hk : k < n) : Bms (w.setCell ⟨g, k, none⟩ (.int .u8 (bm k))) g (k + 1) := ⟨by simpa using h.1, fun j hj => by
  by_cases e : k = j
  · subst e
    obtain ⟨⟨u, hu⟩, _⟩ := hr.2 k hk
    exact World.cell?_setCell_same _ _ _ hu
  · exact (World.cell?_setCell_other _ _ _ _ (fun e' => e (congrArg Addr.off e'))).trans (h.2 j (by omega))⟩

theorem wrap_bm (j : Nat) : IntKind.wrap .u8 ((j : Int) + 1) = bm j := by
  unfold bm
  simp [IntKind.wrap, IntKind.bits, IntKind.signed]

set_option maxHeartbeats 1000000 in
theorem markByteS_any (g n cap : Nat) (w : World) (h : RowC w g n) (hn : n ≤ 1073741824) :
    Calls Tryd.prog 16 #[.slice (some ⟨g, 0, none⟩) n cap, .int .i64 1] w fun e w' => e = .returned (.int .i64 (1 + (n : Int))) ∧ w.grownBy w' (some g) ∧ Bms w' g n := by
  go_enter Tryd.func16, Tryd.ntmps16
  go_wp2
  go_loopw [1, 5] (fun kv i wr => ∃ j : Nat, j ≤ n ∧ i = .int .i64 j ∧ kv = .int .i64 ((j : Int) + 1) ∧ RowC wr g n ∧ w.grownBy wr (some g) ∧ Bms wr g j) (fun _ i _ => n - (intOf i).toNat)
  case atStart => exact ⟨0, Nat.zero_le _, rfl, rfl, h, grownG_refl _ _, h.1, fun j hj => absurd hj (Nat.not_lt_zero _)⟩
  case round =>
    obtain ⟨j, hj, rfl, rfl, hrow, hg, hm⟩ := hrel
    by_cases hlt : j < n
    · obtain ⟨⟨u0, k0⟩, f0⟩ := hrow.2 j hlt
      have HR := hide (hrow.set j (.int .u8 (bm j)))
      have HG := hide (grownG_set hg j (.int .u8 (bm j)))
      have HM := hide (hm.snoc hrow hlt)
      have hwr := wrap_bm j
      clear hrow hg hm
      go_wp2
      go_roundw
      case rel => exact ⟨j + 1, by omega, by go_num, by go_num, HR.out, HG.out, HM.out⟩
      case measure => simp [intOf]; omega
    · go_wp2
      go_ret
      have hjn : j = n := by omega
      subst hjn
      exact ⟨by rw [Int.add_comm]; rfl, hg, hm⟩
end Go.Proofs.YtnoijfnpchihoabDoor
namespace Go.Proofs.YtnoijfnpchihoabDoor
open Go.RowKit M
set_option linter.unusedVariables false

set_option maxHeartbeats 400000 in
theorem eqHead_any (x y u v : ByteArray) (w : World) :
    Calls Tryd.prog 56 #[.agg #[.string x, .string y], .agg #[.string u, .string v]] w fun e w' => e = .returned (.bool (decide (((x, y) : Hd) = (u, v)))) ∧ Below w.heap.size w w' := by
  go_enter Tryd.func56, Tryd.ntmps56
  go_wp2
  all_goals go_ret
  · rename_i h1
    refine ⟨ret_bool ?_, ((Below.refl _ _).alloc (Nat.le_refl _) _).alloc (by simp) _⟩
    have : ¬ x = u := fun e => by subst e; simp at h1
    simp [this]
  · rename_i h1 h2
    refine ⟨ret_bool ?_, ((Below.refl _ _).alloc (Nat.le_refl _) _).alloc (by simp) _⟩
    have : ¬ y = v := fun e => by subst e; simp at h2
    simp [this]
  · rename_i h1 h2
    refine ⟨ret_bool ?_, ((Below.refl _ _).alloc (Nat.le_refl _) _).alloc (by simp) _⟩
    have e1 : x = u := strInj (by simpa using h1)
    have e2 : y = v := strInj (by simpa using h2)
    simp [e1, e2]

set_option maxHeartbeats 400000 in
theorem eqHeadS_any (a b : Option Addr) (ss tt : List Hd) (cap cap' B C : Nat) (w : World) (h : Hds w B a ss) (h' : Hds w C b tt) (hB : B ≤ w.heap.size) (hC : C ≤ w.heap.size) (hl : ss.length ≤ maxLen) (hl' : tt.length ≤ maxLen) :
    Calls Tryd.prog 34 #[.slice a ss.length cap, .slice b tt.length cap'] w fun e w' => e = .returned (.bool (sameH ss tt)) ∧ Below w.heap.size w w' := by
  unfold maxLen at hl hl'
  by_cases hlen : ss.length = tt.length
  · have HL : Hid (ss.length = tt.length) := hlen
    go_enter Tryd.func34, Tryd.ntmps34
    rw [← hlen]
    clear hlen
    go_wp2
    go_loopw [5] (fun i wr => ∃ k : Nat, k ≤ ss.length ∧ i = .int .i64 k ∧ ss.take k = tt.take k ∧ Below w.heap.size w wr) (fun i _ => ss.length - (intOf i).toNat)
    case atStart => exact ⟨0, Nat.zero_le _, rfl, rfl, Below.refl _ _⟩
    case round =>
      obtain ⟨k, hk, rfl, ht, hbe⟩ := hrel
      have HT : Hid (ss.take k = tt.take k) := ht
      clear ht
      by_cases hlt : k < ss.length
      · have hlt' : k < tt.length := by have := HL.out; omega
        obtain ⟨b1, o1, rfl, hb1, hc1⟩ := (h.below hbe hB) (by omega)
        obtain ⟨b2, o2, rfl, hb2, hc2⟩ := (h'.below hbe hC) (by have := HL.out; omega)
        have hcx := (hc1 k hlt).1
        have hcx2 := (hc1 k hlt).2
        have hcy := (hc2 k hlt').1
        have hcy2 := (hc2 k hlt').2
        clear hc1 hc2
        have hl1 : b1 < wr.drew.heap.size := by have := hbe.size; show b1 < wr.heap.size; omega
        have hl2 : b2 < wr.drew.heap.size := by have := hbe.size; show b2 < wr.heap.size; omega
        have hq := eqHead_any ss[k].1 ss[k].2 tt[k].1 tt[k].2 wr.drew
        have hbd : Below w.heap.size w wr.drew := ⟨hbe.os, hbe.tape, hbe.output, hbe.size, hbe.block⟩
        by_cases he : ss[k] = tt[k]
        · have hd : decide (((ss[k].1, ss[k].2) : Hd) = (tt[k].1, tt[k].2)) = true := decide_eq_true he
          rw [hd] at hq
          have HE : Hid (ss[k] = tt[k]) := he
          clear hd he
          go_wp2
          go_region_held3 (fun W => W.cell? ⟨b1, o1 + k * 2, none⟩ = some (.string ss[k].1) ∧ W.cell? ⟨b1, o1 + k * 2 + 1, none⟩ = some (.string ss[k].2) ∧ W.cell? ⟨b2, o2 + k * 2, none⟩ = some (.string tt[k].1) ∧ W.cell? ⟨b2, o2 + k * 2 + 1, none⟩ = some (.string tt[k].2)) (first | exact ⟨hcx, hcx2, hcy, hcy2⟩ | exact ⟨(hb3.cell (p := ⟨b1, o1 + k * 2, none⟩) hl1).trans hcx, (hb3.cell (p := ⟨b1, o1 + k * 2 + 1, none⟩) hl1).trans hcx2, (hb3.cell (p := ⟨b2, o2 + k * 2, none⟩) hl2).trans hcy, (hb3.cell (p := ⟨b2, o2 + k * 2 + 1, none⟩) hl2).trans hcy2⟩) ((go_at_call 56; refine hq.mono ?_; rintro e w1 ⟨rfl, hb3⟩))
          all_goals
            have c1 := hbd.trans (hb3.mono hbd.size)
            clear hq hb3
            go_wp2
            go_roundw
            case rel => exact ⟨k + 1, by omega, by go_num, take_sameH k hlt hlt' HT.out HE.out, c1⟩
            case measure => simp [intOf]; omega
        · have hd : decide (((ss[k].1, ss[k].2) : Hd) = (tt[k].1, tt[k].2)) = false := decide_eq_false he
          rw [hd] at hq
          have HE : Hid (sameH ss tt = false) := sameH_not k hlt hlt' he
          clear hd he
          go_wp2
          go_region_held3 (fun W => W.cell? ⟨b1, o1 + k * 2, none⟩ = some (.string ss[k].1) ∧ W.cell? ⟨b1, o1 + k * 2 + 1, none⟩ = some (.string ss[k].2) ∧ W.cell? ⟨b2, o2 + k * 2, none⟩ = some (.string tt[k].1) ∧ W.cell? ⟨b2, o2 + k * 2 + 1, none⟩ = some (.string tt[k].2)) (first | exact ⟨hcx, hcx2, hcy, hcy2⟩ | exact ⟨(hb3.cell (p := ⟨b1, o1 + k * 2, none⟩) hl1).trans hcx, (hb3.cell (p := ⟨b1, o1 + k * 2 + 1, none⟩) hl1).trans hcx2, (hb3.cell (p := ⟨b2, o2 + k * 2, none⟩) hl2).trans hcy, (hb3.cell (p := ⟨b2, o2 + k * 2 + 1, none⟩) hl2).trans hcy2⟩) ((go_at_call 56; refine hq.mono ?_; rintro e w1 ⟨rfl, hb3⟩))
          all_goals
            have c1 := hbd.trans (hb3.mono hbd.size)
            clear hq hb3
            go_wp2
            go_ret
            exact ⟨ret_bool HE.out.symm, c1⟩
      · go_wp2
        go_ret
        exact ⟨ret_bool (sameH_all HL.out k hlt HT.out).symm, hbe⟩
  · have HS := sameH_len hlen
    go_enter Tryd.func34, Tryd.ntmps34
    go_wp2
    go_ret
    exact ⟨ret_bool HS.symm, Below.refl _ _⟩
end Go.Proofs.YtnoijfnpchihoabDoor
namespace Go.Proofs.YtnoijfnpchihoabDoor
open Go.RowKit M
set_option linter.unusedVariables false

theorem sameR_m {a b : Rq} (h : ¬ a.m = b.m) : sameR a b = false := by simp [sameR, h]
theorem sameR_p {a b : Rq} (h : ¬ a.p = b.p) : sameR a b = false := by simp [sameR, h]
theorem sameR_h {a b : Rq} (h : sameH a.hs b.hs = false) : sameR a b = false := by simp [sameR, h]
theorem sameR_b {a b : Rq} (h : ¬ a.b = b.b) : sameR a b = false := by simp [sameR, h]
theorem sameR_all {a b : Rq} (h1 : a.m = b.m) (h2 : a.p = b.p) (h3 : sameH a.hs b.hs = true) (h4 : a.b = b.b) : sameR a b = true := by simp [sameR, h1, h2, h3, h4]

theorem neStr {x y : ByteArray} (h : ¬ x = y) : (x.toList == y.toList) = false := by
  rw [beq_eq_false_iff_ne]; exact fun e => h (strInj e)
theorem eqStr {x y : ByteArray} (h : x = y) : (x.toList == y.toList) = true := by rw [h]; simp
end Go.Proofs.YtnoijfnpchihoabDoor
namespace Go.Proofs.YtnoijfnpchihoabDoor
open Go.RowKit M
set_option linter.unusedVariables false

set_option maxHeartbeats 1000000 in
theorem eqResp_any (a b : Option Addr) (r s : Rs) (cap cap' B C : Nat) (w : World) (h : Hds w B a r.hs) (h' : Hds w C b s.hs) (hB : B ≤ w.heap.size) (hC : C ≤ w.heap.size) (hl : r.hs.length ≤ maxLen) (hl' : s.hs.length ≤ maxLen) :
    Calls Tryd.prog 22 #[.agg #[.int .i64 r.c, .slice a r.hs.length cap, .string r.b], .agg #[.int .i64 s.c, .slice b s.hs.length cap', .string s.b]] w fun e w' => e = .returned (.bool (sameA r s)) ∧ Below w.heap.size w w' := by
  have HM : Hid (¬ r.c = s.c → sameA r s = false) := sameA_c
  have HH : Hid (sameH r.hs s.hs = false → sameA r s = false) := sameA_h
  have HBd : Hid (¬ r.b = s.b → sameA r s = false) := sameA_b
  have HA : Hid (r.c = s.c → sameH r.hs s.hs = true → r.b = s.b → sameA r s = true) := sameA_all
  generalize sameA r s = z at *
  obtain ⟨rc, hs, rb⟩ := r
  obtain ⟨sc, ts, sb⟩ := s
  simp only at *
  by_cases h1 : rc = sc
  · have e1 : (rc == sc) = true := beq_iff_eq.2 h1
    have e1' : (rc != sc) = false := by simp [h1]
    have hb0 : Below w.heap.size w ((w.alloc (Obj.cells #[Value.int .i64 rc, Value.slice a hs.length cap, Value.string rb] 46)).alloc (Obj.cells #[Value.int .i64 sc, Value.slice b ts.length cap', Value.string sb] 46)) := ((Below.refl _ _).alloc (Nat.le_refl _) _).alloc (by simp) _
    have hE := eqHeadS_any a b hs ts cap cap' B C _ (h.below hb0 hB) (h'.below hb0 hC) (by simp; omega) (by simp; omega) hl hl'
    have HA' : Hid (sameH hs ts = true → rb = sb → z = true) := fun h3 h4 => HA.out h1 h3 h4
    clear HA
    subst h1
    cases h3 : sameH hs ts
    · have hz := HH.out h3
      rw [h3] at hE
      subst hz
      clear h3
      go_enter Tryd.func22, Tryd.ntmps22
      go_wp2_with fail
      refine hE.mono ?_
      rintro e w1 ⟨rfl, hb1⟩
      have c1 := hb0.trans (hb1.mono hb0.size)
      go_wp2
      go_ret
      exact ⟨rfl, c1⟩
    · rw [h3] at hE
      by_cases h4 : rb = sb
      · have e4 := eqStr h4
        have hz := HA'.out h3 h4
        subst hz
        clear h3 h4
        go_enter Tryd.func22, Tryd.ntmps22
        go_wp2_with fail
        refine hE.mono ?_
        rintro e w1 ⟨rfl, hb1⟩
        have c1 := hb0.trans (hb1.mono hb0.size)
        obtain ⟨hc, hf⟩ := bcell hb1
        go_wp2
        go_ret
        exact ⟨rfl, c1⟩
      · have e4 := neStr h4
        have hz := HBd.out h4
        subst hz
        clear h3 h4
        go_enter Tryd.func22, Tryd.ntmps22
        go_wp2_with fail
        refine hE.mono ?_
        rintro e w1 ⟨rfl, hb1⟩
        have c1 := hb0.trans (hb1.mono hb0.size)
        obtain ⟨hc, hf⟩ := bcell hb1
        go_wp2
        go_ret
        exact ⟨rfl, c1⟩
  · have e1 : (rc == sc) = false := beq_eq_false_iff_ne.2 h1
    have e1' : (rc != sc) = true := by simp [h1]
    have hz := HM.out h1
    subst hz
    go_enter Tryd.func22, Tryd.ntmps22
    go_wp2
    go_ret
    exact ⟨rfl, ((Below.refl _ _).alloc (Nat.le_refl _) _).alloc (by simp) _⟩
end Go.Proofs.YtnoijfnpchihoabDoor
namespace Go.Proofs.YtnoijfnpchihoabDoor
open Go.RowKit
set_option linter.unusedVariables false

theorem info_u8 : (Tryd.prog.info? 5).map (fun i => (i.zero, i.size, i.bytes)) = some (some (.int .u8 0), 1, 1) := by kernel_rfl

/-- A new row of bytes, none of them frozen. -/
def NewB (w : World) (N : Nat) (l : List UInt8) : Prop := w.rowIs N 5 l.length (fun j => .int .u8 (l.getD j 0).toNat)
theorem NewB.byt {w : World} {N C : Nat} {l : List UInt8} (h : NewB w N l) (hN : N < C) : Byt w C (some ⟨N, 0, none⟩) l := fun _ =>
  ⟨N, 0, rfl, hN, fun j hj => by rw [Nat.zero_add, World.rowIs.cell h hj]; simp [List.getD, List.getElem?_eq_getElem hj]⟩
theorem NewB.next {w w' : World} {N : Nat} {l : List UInt8} (h : NewB w N l) (hb : Below w.heap.size w w') : NewB w' N l := World.rowIs.of_block h (hb.block _ (World.rowIs.lt h))

set_option maxHeartbeats 400000 in
theorem toByteS_any (a : Option Addr) (l : List UInt8) (cap B : Nat) (w : World) (h : Byt w B a l) (hB : B ≤ w.heap.size) (hl : l.length ≤ 1048576) :
    Calls Tryd.prog 25 #[.slice a l.length cap] w fun e w' => e = .returned (.slice (some ⟨w.heap.size, 0, none⟩) l.length l.length) ∧ NewB w' w.heap.size l ∧ Below w.heap.size w w' ∧ w.heap.size < w'.heap.size := by
  have hmk := run_make_row' (P := Tryd.prog) 27 5 (.int .u8 0) 1 Tryd.underlying27 info_u8 rfl .i64 .i64 l.length (by omega) (by omega) w
  go_enter Tryd.func25, Tryd.ntmps25
  go_wp2
  clear hmk
  go_loopw [4] (fun i wr => ∃ k : Nat, k ≤ l.length ∧ i = .int .i64 k ∧ wr.rowIs w.heap.size 5 l.length (fun j => if j < k then .int .u8 (l.getD j 0).toNat else .int .u8 0) ∧ Below w.heap.size w wr) (fun i _ => l.length - (intOf i).toNat)
  case atStart => exact ⟨0, Nat.zero_le _, rfl, (World.rowIs_made w _ _ _).congr (fun i _ => by simp), (Below.refl _ _).alloc (Nat.le_refl _) _⟩
  case round =>
    obtain ⟨k, hk, rfl, hrow, hbe⟩ := hrel
    by_cases hlt : k < l.length
    · obtain ⟨b, o, rfl, hb, hc⟩ := h (by omega)
      have hcx := (hbe.cell (p := ⟨b, o + k, none⟩) (Nat.lt_of_lt_of_le hb hB)).trans (hc k hlt)
      have hcn := hrow.cell hlt
      have hfn := hrow.frozen k
      have hrow2 := (hrow.set k (.int .u8 (l[k]).toNat)).congr (g := fun j => if j < k + 1 then .int .u8 (l.getD j 0).toNat else .int .u8 0) (fun j hj => by
        by_cases e : j = k
        · subst e; simp [List.getD, List.getElem?_eq_getElem hlt]
        · simp only [e, if_false]
          by_cases e2 : j < k
          · rw [if_pos e2, if_pos (by omega)]
          · rw [if_neg e2, if_neg (by omega)])
      have HR : Hid _ := hrow2
      clear hrow2
      go_wp2
      go_roundw
      case rel => exact ⟨k + 1, by omega, by go_num, HR.out, hbe.setCell (Nat.le_refl _) _⟩
      case measure => simp [intOf]; omega
    · go_wp2
      go_ret
      refine ⟨rfl, hrow.congr (fun j hj => by rw [if_pos (by omega)]), hbe, hrow.lt⟩
end Go.Proofs.YtnoijfnpchihoabDoor
namespace Go.Proofs.YtnoijfnpchihoabDoor
open Go.RowKit

/-- What the walk is told of a slice of integers that came in: it is nil; or it leads to a row of 'cap' cells, the numbers 'zs' (the first 'len' are its elements), each fitting its kind. -/
def IsRow (k : IntKind) (w : World) (a : Option Addr) (len cap : Nat) (zs : List Int) : Prop :=
  (a = none ∧ len = 0 ∧ cap = 0 ∧ zs = []) ∨
  ∃ x, a = some x ∧ len ≤ cap ∧ cap ≤ maxLen ∧ zs.length = cap ∧ (∀ i, i < zs.length → w.cell? (x.add i) = some (.int k (zs.getD i 0))) ∧ ∀ n ∈ zs, (Lit.int k n).wf = true
end Go.Proofs.YtnoijfnpchihoabDoor
