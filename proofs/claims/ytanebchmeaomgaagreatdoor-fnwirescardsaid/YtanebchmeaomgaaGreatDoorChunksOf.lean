/-
  What the program's chunksOf gives: one piece behind the other, as they are read.
-/
import Derived.RangeFuncNested
import Derived.RangeFuncBound
import Derived.RangeFuncCalls
import Derived.RangeFuncLeaves
import Derived.RangeFuncBox
import Derived.Shelf.Abstract
import Derived.Shelf.RegionOpen
import Derived.WalkKit
import Derived.OwnWalkIn
import Derived.TacticsInMore
import Derived.LoopNIn
import Derived.LoopIn
import Derived.Test.YtanebchmeaomgaaGreatDoorReadChunk
namespace Go.Proofs.YtanebchmeaomgaaGreatDoor
open Go.RowKit Go.Shelf M
set_option linter.unusedVariables false
attribute [local go_sem] Oper.semAt_some

/-- A piece as it is handed on: its bytes lie in what was there ahead. -/
structure Chk (w : World) where
  a : Option Addr
  c : Nat
  p : Nat
  code : Int
  data : List UInt8
  hb : Byt w w.heap.size a data
  hd : data.length ≤ 200
  hp : p ≤ 1073741824
  ha : code = 0 → ∃ b o, a = some ⟨b, o, none⟩
def encC {w : World} (x : Chk w) : Value := .agg #[.slice x.a x.data.length x.c, .int .i64 x.p, .int .i64 x.code]
/-- It is what is read at a place, with so much room. -/
def IsC {w : World} (l : List UInt8) (k room : Nat) (x : Chk w) : Prop :=
  x.code = pieceC l k room ∧ (x.code ≠ 0 → x.data = []) ∧ (x.code = 0 → x.data = pieceL l k ∧ x.data.length = szN l k ∧ x.p = szP l k + szN l k + 2)
/-- Where the reading stands when these have come, none of them the last. -/
inductive AtC {w : World} (l : List UInt8) (k0 : Nat) : List (Chk w) → Nat → Nat → Prop
  | nil : AtC l k0 [] k0 200
  | snoc {pre k room x} : AtC l k0 pre k room → IsC l k room x → x.code = 0 → x.data ≠ [] → AtC l k0 (pre ++ [x]) x.p (room - x.data.length)
def flatC {w : World} (pre : List (Chk w)) : List UInt8 := pre.flatMap fun x => x.data
theorem flatC_snoc {w : World} (pre : List (Chk w)) (x : Chk w) : flatC (pre ++ [x]) = flatC pre ++ x.data := by simp [flatC]
theorem flatC_len {w : World} (pre : List (Chk w)) : (flatC pre).length ≤ 200 * pre.length := by
  induction pre with
  | nil => simp [flatC]
  | cons x r ih =>
    have e : flatC (x :: r) = x.data ++ flatC r := by simp [flatC]
    have := x.hd
    rw [e, List.length_append, List.length_cons]
    omega
theorem AtC.get {w : World} {l : List UInt8} {k0 k room : Nat} {pre : List (Chk w)} (h : AtC l k0 pre k room) : (flatC pre).length + room = 200 ∧ pre.length ≤ (flatC pre).length ∧ getC 201 l k0 [] = getC (201 - pre.length) l k (flatC pre) := by
  induction h with
  | nil => exact ⟨rfl, Nat.le_refl _, rfl⟩
  | @snoc pre k room x h hx hc hd ih =>
    obtain ⟨i1, i2, i3⟩ := ih
    obtain ⟨x1, _, x3⟩ := hx
    obtain ⟨y1, y2, y3⟩ := x3 hc
    have hp0 : pieceC l k room = 0 := by rw [← x1]; exact hc
    have hlen : 0 < x.data.length := List.length_pos_iff.2 hd
    have hroom : szN l k ≤ room := by
      unfold pieceC at hp0
      split at hp0
      · rename_i hz; exact absurd hp0 hz
      · split at hp0
        · cases hp0
        · omega
    rw [flatC_snoc, List.length_append, List.length_append, List.length_singleton]
    refine ⟨by omega, by omega, ?_⟩
    rw [i3]
    obtain ⟨f, hf⟩ : ∃ f, 201 - pre.length = f + 1 := ⟨200 - pre.length, by omega⟩
    have hr : room = 200 - (flatC pre).length := by omega
    rw [hf, getC, if_neg (by rw [← hr, hp0]; decide), if_neg (by omega), ← y3, ← y1, show 201 - (pre.length + 1) = f by omega]
theorem IsC.room {w : World} {l : List UInt8} {k room : Nat} {x : Chk w} (h : IsC l k room x) (hd : x.data ≠ []) : x.code = 0 ∧ x.data.length ≤ room := by
  obtain ⟨x1, x2, x3⟩ := h
  by_cases hc : x.code = 0
  · obtain ⟨y1, y2, y3⟩ := x3 hc
    refine ⟨hc, ?_⟩
    rw [hc] at x1
    have hp0 := x1.symm
    unfold pieceC at hp0
    split at hp0
    · rename_i hz; exact absurd hp0 hz
    · split at hp0
      · cases hp0
      · omega
  · exact absurd (x2 hc) hd
/-- What a round keeps: what was there ahead, every piece in its own place, and the box of the bytes. -/
def KpC (n₀ bx : Nat) (W W' : World) : Prop := Below n₀ W W' ∧ (∀ (g : Nat) (cur : Array Value) (fz : Nat × Nat), W.heap[g]? = some (Obj.cells cur 252 fz) → W'.heap[g]? = W.heap[g]?) ∧ W'.heap[bx]? = W.heap[bx]?
theorem KpC.t {n₀ bx : Nat} {A B C : World} (h : KpC n₀ bx A B) (k : KpC n₀ bx B C) : KpC n₀ bx A C :=
  ⟨h.1.trans k.1, fun g cur fz hg => (k.2.1 g cur fz ((h.2.1 g cur fz hg).trans hg)).trans (h.2.1 g cur fz hg), k.2.2.trans h.2.2⟩
theorem KpC.b {n₀ bx : Nat} {w : World} (hn : n₀ ≤ w.heap.size) (hb : bx < w.heap.size) (W : World) (l : Nat) (o o' : Obj) (hl : w.heap.size ≤ l) (h : W.heap[l]? = some o) (ho : o.isCells = false) (hw : o.isWalk = false) : KpC n₀ bx W (W.putObj l o') :=
  ⟨belowK_b hn W l o o' hl h ho hw, fun g cur fz hg => World.putObj_heap_other (fun e => by subst e; rw [h] at hg; cases hg; cases ho), World.putObj_heap_other (fun e => by omega)⟩

/-- A piece that readChunk hands back, as it is handed on. -/
theorem Byt.back {w w' : World} {C : Nat} {a : Option Addr} {l : List UInt8} (h : Byt w' C a l) (hb : Below C w w') : Byt w C a l := fun h0 => by
  obtain ⟨b, o, e, hbB, hc⟩ := h h0
  exact ⟨b, o, e, hbB, fun j hj => (hb.cell (p := ⟨b, o + j, none⟩) hbB).symm.trans (hc j hj)⟩
theorem chunk_of {w0 w' : World} {l : List UInt8} {k room : Nat} {v : Value} (hb : Below w0.heap.size w0 w') (hr : room ≤ 200) (hk : k ≤ l.length) (hl : l.length ≤ 1073741824 - 2) (h : ChunkIs w' w0.heap.size l k room v) : ∃ x : Chk w0, v = encC x ∧ IsC l k room x ∧ (x.code = 0 → x.p ≤ l.length) := by
  obtain ⟨a, n, c, p, rfl, h1, h2⟩ := h
  by_cases hz : pieceC l k room = 0
  · obtain ⟨e1, e2, e3, e4⟩ := h2 hz
    have hz' := hz
    have hfit : szN l k ≤ room ∧ szP l k + szN l k + 2 ≤ l.length := by
      unfold pieceC at hz
      split at hz
      · rename_i hzz; exact absurd hz hzz
      · split at hz
        · cases hz
        · split at hz
          · cases hz
          · have := endC_z hz
            omega
    have hlen : (pieceL l k).length = szN l k := by unfold pieceL; rw [List.length_take, List.length_drop]; omega
    refine ⟨⟨a, c, p, 0, pieceL l k, e3.back hb, by omega, by omega, fun _ => e4⟩, ?_, ⟨hz'.symm, fun e => absurd rfl e, fun _ => ⟨rfl, hlen, e2⟩⟩, fun _ => by show p ≤ l.length; omega⟩
    show _ = Value.agg #[.slice a (pieceL l k).length c, .int .i64 p, .int .i64 0]
    rw [hz', hlen, e1]
  · obtain ⟨rfl, rfl⟩ := h1 hz
    exact ⟨⟨a, c, 0, pieceC l k room, [], Byt.nil _ _ _, Nat.zero_le _, Nat.zero_le _, fun e => absurd e hz⟩, rfl, ⟨rfl, fun _ => rfl, fun e => absurd e hz⟩, fun e => absurd e hz⟩

set_option maxRecDepth 100000 in
set_option maxHeartbeats 4000000 in
theorem chunks1_in (n : Nat) (hn : 1 ≤ n) (ll Ba Bx k0 cap : Nat) (w0 : World) (a : Option Addr) (l : List UInt8) (J Jx : List (Chk w0) → World → Prop)
    (hl : l.length ≤ 4194304) (hlc : l.length ≤ cap) (hcm : cap ≤ maxLen) (hk0 : k0 ≤ l.length) (hy0 : Byt w0 w0.heap.size a l)
    (hY : ∀ pre x W, J pre W → pre.length < 202 → YieldAt Fence.wide (n - 1) Tryz.prog ll #[encC x] W fun e W' =>
      (e = .returned (.bool true) ∧ J (pre ++ [x]) W' ∧ KpC w0.heap.size Bx W W') ∨ (e = .returned (.bool false) ∧ Jx (pre ++ [x]) W'))
    (W : World) (hJ : AbidesFrom W.heap.size J) (hlow : Below w0.heap.size w0 W) (hBa : W.cell? ⟨Ba, 0, none⟩ = some (.int .i64 k0)) (hBx : W.cell? ⟨Bx, 0, none⟩ = some (.slice a l.length cap)) (h0 : J [] W) :
    CallsIn Fence.wide n Tryz.prog 223 #[.func (.yield ll) #[] #[], .pointer (some ⟨Ba, 0, none⟩), .pointer (some ⟨Bx, 0, none⟩)] W fun e W' => (∃ v, e = .returned v) ∧
      ((∃ ys, (∃ pre x k room, ys = pre ++ [x] ∧ AtC l k0 pre k room ∧ IsC l k room x ∧ x.data = []) ∧ J ys W') ∨ (∃ ys, (∃ pre x k room, ys = pre ++ [x] ∧ AtC l k0 pre k room ∧ IsC l k room x) ∧ Jx ys W')) := by
  unfold maxLen at hcm
  refine callsIn_of_wp Tryz.func223 rfl trivial ?_ rfl
  simp only [Tryz.ntmps223, List.size_toArray, List.length_cons, List.length_nil, Nat.reduceAdd, Nat.reduceSub, Array.replicate_succ, Array.replicate_zero, List.push_toArray, List.append_toArray, List.nil_append, List.cons_append]
  have HYl := hide hY
  have HJ := hide hJ
  clear hY hJ
  gi_wp2
  gi_loopw [4, 5] (fun nv rv wr => ∃ (k room : Nat) (pre : List (Chk w0)), nv = .int .i64 k ∧ rv = .int .i64 room ∧ k ≤ l.length ∧ room ≤ 200 ∧ AtC l k0 pre k room ∧ J pre wr ∧ Below w0.heap.size w0 wr ∧ wr.cell? ⟨Bx, 0, none⟩ = some (.slice a l.length cap)) (fun _ rv _ => (intOf rv).toNat)
  case atStart => exact ⟨k0, 200, [], rfl, rfl, hk0, Nat.le_refl _, AtC.nil, h0, hlow, hBx⟩
  case round =>
    obtain ⟨k, room, pre, rfl, rfl, hk, hr, hat, hJs, hbe, hbx⟩ := hrel
    have HAt := hide hat
    have HJs := hide hJs
    have HBe := hide hbe
    have hRC := hide (readChunk_any a l cap w0.heap.size k room wr (hy0.below hbe (Nat.le_refl _)) hbe.size (by omega) hlc (by unfold maxLen; omega) hk (by omega))
    clear hat hJs hbe
    gi_wp2_with (refine ⟨trivial, ?_⟩; gi_at_call 224; refine (callsIn_wide.2 hRC.out).mono ?_; rintro e w1 ⟨⟨v, rfl, hv⟩, b1⟩; obtain ⟨x, rfl, hx, hxp⟩ := chunk_of (HBe.out.trans (b1.mono HBe.out.size)) hr hk (by omega) hv; unfold encC)
    have g1 : wr.grownBy w1 none := ⟨b1.os, b1.tape, b1.output, b1.size, fun k hk _ => b1.block k hk⟩
    have c1 := HBe.out.trans (b1.mono HBe.out.size)
    have hxl := World.block_lt_of_cell? wr _ hbx
    have hbx1 := (b1.cell (p := ⟨Bx, 0, none⟩) hxl).trans hbx
    have hxl1 : Bx < w1.heap.size := Nat.lt_of_lt_of_le hxl b1.size
    have j1 := HJ.out pre wr w1 none HJs.out g1 (fun r e => by cases e)
    obtain ⟨O, hO⟩ : ∃ O, Obj.cells #[Value.slice x.a x.data.length x.c, Value.int .i64 x.p, Value.int .i64 x.code] 252 = O := ⟨_, rfl⟩
    have j2 := HJ.out pre w1 (w1.alloc O) none j1 (World.grownBy_alloc w1 O none) (fun r e => by cases e)
    have c2 := c1.alloc c1.size O
    have hn2 := heap_alloc_new w1 O
    have hbx2 : (w1.alloc O).cell? ⟨Bx, 0, none⟩ = some (.slice a l.length cap) := (((Below.refl _ w1).alloc (Nat.le_refl _) O).cell (p := ⟨Bx, 0, none⟩) hxl1).trans hbx1
    have hlt : pre.length < 202 := by have := HAt.out.get; omega
    obtain ⟨fn, tmps, assign, body, hy, hR⟩ := HYl.out pre x (w1.alloc O) j2 hlt
    rw [← hO] at hy hR hn2 c2 hbx2
    have HX := hide hx
    have HXp := hide hxp
    have HN2 := hide hn2
    have C2 := hide c2
    have HBX2 := hide hbx2
    clear hO j1 j2 g1 b1 hv hx hxp hRC hn2 c2 hbx2 hbx1 c1 hbx
    dsimp only [encC] at hy
    gi_wp2
    refine hR.mono ?_
    rintro e W3 (⟨rfl, hJ3, hk3⟩ | ⟨rfl, hJx3⟩)
    · have h3 := (hk3.2.1 _ _ _ HN2.out).trans HN2.out
      have m0 : W3.cell? ⟨w1.heap.size, 0, none⟩ = some (.slice x.a x.data.length x.c) := by unfold World.cell?; rw [h3]; rfl
      have m1 : W3.cell? ⟨w1.heap.size, 1, none⟩ = some (.int .i64 x.p) := by unfold World.cell?; rw [h3]; rfl
      have HK3 := hide hk3
      have HJ3 := hide hJ3
      clear hy hR h3 hk3 hJ3
      by_cases hd : x.data = []
      · have hd0 : x.data.length = 0 := by rw [hd]; rfl
        have hd' : ((x.data.length : Int) == 0) = true := by rw [beq_iff_eq]; omega
        have HD := hide hd
        clear hd hd0
        gi_wp2
        refine bodyPost_ret (results_none rfl _ _ _) rfl ?_
        exact ⟨⟨_, rfl⟩, .inl ⟨pre ++ [x], ⟨pre, x, k, room, rfl, HAt.out, HX.out, HD.out⟩, HJ3.out⟩⟩
      · obtain ⟨hc0, hroom⟩ := HX.out.room hd
        have hpos : 0 < x.data.length := List.length_pos_iff.2 hd
        have hd' : ((x.data.length : Int) == 0) = false := by rw [beq_eq_false_iff_ne]; omega
        have HA2 := hide (AtC.snoc HAt.out HX.out hc0 hd)
        have hpl := HXp.out hc0
        have hxd := x.hd
        have hbx3 : W3.cell? ⟨Bx, 0, none⟩ = some (.slice a l.length cap) := (World.cell?_of_block (a := ⟨Bx, 0, none⟩) HK3.out.2.2).trans HBX2.out
        have HBX3 := hide hbx3
        clear hd hc0 hbx3
        gi_wp2
        go_roundw
        case rel => exact ⟨x.p, room - x.data.length, pre ++ [x], rfl, by go_num, hpl, by omega, HA2.out, HJ3.out, C2.out.trans HK3.out.1, HBX3.out⟩
        case measure => simp [intOf]; omega
    · gi_wp2
      refine bodyPost_ret (results_none rfl _ _ _) rfl ?_
      exact ⟨⟨_, rfl⟩, .inr ⟨pre ++ [x], ⟨pre, x, k, room, rfl, HAt.out, HX.out⟩, hJx3⟩⟩

set_option maxHeartbeats 1000000 in
/-- 'chunksOf' hands back a function that has the bytes and the place in boxes. -/
theorem chunksOf_in (n : Nat) (a : Option Addr) (m cap k : Nat) (w : World) :
    CallsIn Fence.wide n Tryz.prog 213 #[.slice a m cap, .int .i64 k] w fun e w' => e = .returned (.func (.func 223) #[] #[.pointer (some ⟨w.heap.size + 1, 0, none⟩), .pointer (some ⟨w.heap.size, 0, none⟩)]) ∧ w' = (w.alloc (.cells #[.slice a m cap] 22)).alloc (.cells #[.int .i64 k] 3) := by
  refine callsIn_of_wp Tryz.func213 rfl trivial ?_ rfl
  simp only [Tryz.ntmps213, List.size_toArray, List.length_cons, List.length_nil, Nat.reduceAdd, Nat.reduceSub, Array.replicate_succ, Array.replicate_zero, List.push_toArray, List.append_toArray, List.nil_append, List.cons_append]
  gi_wp2
  go_ret
  exact ⟨rfl, rfl⟩

/-- What it hands back gives one piece behind the other. -/
theorem chunks_stops (n : Nat) (hn : 1 ≤ n) (Ba Bx k0 cap : Nat) (w0 : World) (a : Option Addr) (l : List UInt8) (hl : l.length ≤ 4194304) (hlc : l.length ≤ cap) (hcm : cap ≤ maxLen) (hk0 : k0 ≤ l.length) (hy0 : Byt w0 w0.heap.size a l)
    (w : World) (hlow : Below w0.heap.size w0 w) (hba : Ba < w.heap.size) (hbx : Bx < w.heap.size) (hBa : w.cell? ⟨Ba, 0, none⟩ = some (.int .i64 k0)) (hBx : w.cell? ⟨Bx, 0, none⟩ = some (.slice a l.length cap)) :
    SeqStopsK Fence.wide n Tryz.prog 223 #[.pointer (some ⟨Ba, 0, none⟩), .pointer (some ⟨Bx, 0, none⟩)] (fun x : Chk w0 => #[encC x]) (KpC w0.heap.size Bx)
      (fun ys => ∃ pre x k room, ys = pre ++ [x] ∧ AtC l k0 pre k room ∧ IsC l k room x ∧ x.data = []) (fun ys => ∃ pre x k room, ys = pre ++ [x] ∧ AtC l k0 pre k room ∧ IsC l k room x) 202 w := fun ll J Jx W hW hJ _ hY h0 =>
  chunks1_in n hn ll Ba Bx k0 cap w0 a l J Jx hl hlc hcm hk0 hy0 hY W hJ (hlow.trans (hW.mono hlow.size)) ((hW.cell (p := ⟨Ba, 0, none⟩) hba).trans hBa) ((hW.cell (p := ⟨Bx, 0, none⟩) hbx).trans hBx) h0
end Go.Proofs.YtanebchmeaomgaaGreatDoor
