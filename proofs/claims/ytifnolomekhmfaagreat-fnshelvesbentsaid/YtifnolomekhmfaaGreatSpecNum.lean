/-
  Numbers out of a list that are drawn.
  Out of many choices a list.
  Rows that a call makes by append, of whatever elements: each has the same number of cells.
  Append onto a row that the call owns, as a step of a drawn region.
  What the specification's NumText does.
-/
import Derived.Test.YtifnolomekhmfaaGreatHide
import Derived.Test.YtifnolomekhmfaaGreatDrawI
import Derived.Below
import Derived.WalkKit
import Derived.Maps.AppendAt
import Derived.Deep.OwnRows
import Derived.Test.YtifnolomekhmfaaGreatProg
import Derived.Deep.RegionHeld3
import Derived.Test.YtifnolomekhmfaaGreatMathPath
namespace Go.Proofs.YtifnolomekhmfaaGreat
open Go.RowKit M

theorem row_ints (w : World) (ss : List Int) (T : TypeId) (C : Array Value) (n : Nat) (hC : C = (ss.map (Value.int .i64)).toArray) (hn : ss.length = n) : ∀ j, j < n → (w.alloc (.cells C T)).cell? ⟨w.heap.size, j, none⟩ = some (.int .i64 (ss.getD j 0)) := by
  subst hC hn
  intro j hj
  rw [World.cell?_alloc_new]
  simp [List.getD_eq_getElem?_getD, List.getElem?_eq_getElem hj]

/-- l1Int at a list that was just built. -/
theorem intNew {w : World} {N : Nat} {a : Option Addr} {len cap : Nat} {zs : List Int} {c : St} (h : DC w N a len cap zs c) (ss : List Int) (C : Array Value) (T : TypeId) (n M : Nat) (hM : M = w.heap.size) (hC : C = (ss.map (Value.int .i64)).toArray) (hn : ss.length = n) (h0 : 0 < n) (h1 : n ≤ 256) :
    Calls Tryz.prog 104 #[.pointer (some ⟨N, 0, none⟩), .slice (some ⟨M, 0, none⟩) n n] (w.alloc (.cells C T)) fun e w' => e = .returned (.int .i64 (ss.getD (pick zs len c n) 0)) ∧ DC w' N a len cap zs (belowS len c n) ∧ w.grownBy w' (some N) := by
  subst hM
  have hA := h.alloc (.cells C T)
  refine (l1Int_any N w.heap.size a len cap n zs ss c _ hA.cur hA.code h.bN h.hlen h0 h1 (by have := h.lt; omega) (row_ints w ss T C n hC hn)).mono ?_
  rintro e w1 ⟨rfl, hc1, hg1⟩
  exact ⟨rfl, hA.grown hg1 hc1, grown_trans (grown_alloc (grown_refl _ _) _) hg1⟩
end Go.Proofs.YtifnolomekhmfaaGreat
namespace Go.Proofs.YtifnolomekhmfaaGreat
open Go.RowKit

theorem pick_gen {α : Type} {p : Nat → α → Prop} : ∀ {len : Nat}, (∀ i, i < len → ∃ q, p i q) → ∃ hs : List α, hs.length = len ∧ ∀ j (hj : j < hs.length), p j hs[j] := by
  intro len
  induction len with
  | zero => intro _; exact ⟨[], rfl, fun j hj => absurd hj (Nat.not_lt_zero _)⟩
  | succ k ih =>
    intro each
    obtain ⟨hs, hlen, hq⟩ := ih (fun i hi => each i (by omega))
    obtain ⟨q, hqk⟩ := each k (by omega)
    refine ⟨hs ++ [q], by simp [hlen], fun j hj => ?_⟩
    by_cases e : j < hs.length
    · rw [List.getElem_append_left e]; exact hq j e
    · have : j = k := by simp [hlen] at hj; omega
      subst this
      rw [List.getElem_append_right (by omega)]
      simp only [hlen, Nat.sub_self, List.getElem_cons_zero]
      exact hqk
theorem add_pick (b o j : Nat) : (⟨b, o, none⟩ : Addr).add j = ⟨b, o + j, none⟩ := by unfold Addr.add; split <;> simp_all
end Go.Proofs.YtifnolomekhmfaaGreat
namespace Go.Proofs.YtifnolomekhmfaaGreat
open Go.RowKit
set_option linter.unusedVariables false

section
variable {α : Type} {cs : α → List Value} {K : Nat} {tE : TypeId}
/-- A row that the call owns from block B on. -/
def OwnG (tE : TypeId) (K : Nat) (cs : α → List Value) (w : World) (B : Nat) (v : Value) (l : List α) : Prop := w.ownsRow B tE K v l.length (l.flatMap cs)
theorem flat_length (hK : ∀ x, (cs x).length = K) (l : List α) : (l.flatMap cs).length = l.length * K := by
  induction l with
  | nil => simp
  | cons x l ih => rw [List.flatMap_cons, List.length_append, ih, hK, List.length_cons, Nat.add_mul]; omega
theorem flat_at (hK : ∀ x, (cs x).length = K) (l : List α) : ∀ j (hj : j < l.length) i, i < K → (l.flatMap cs)[j * K + i]? = (cs l[j])[i]? := by
  induction l with
  | nil => intro j hj; exact absurd hj (Nat.not_lt_zero _)
  | cons x l ih =>
    intro j hj i hi
    rw [List.flatMap_cons]
    match j, hj with
    | 0, _ => rw [Nat.zero_mul, Nat.zero_add, List.getElem?_append_left (by rw [hK]; omega)]; rfl
    | j + 1, hj =>
      rw [List.getElem?_append_right (by rw [hK, Nat.add_mul]; omega), hK, show (j + 1) * K + i - K = j * K + i by rw [Nat.add_mul]; omega]
      simpa using ih j (by simpa using hj) i hi
theorem OwnG.made (w : World) (B : Nat) (hB : B ≤ w.heap.size) : OwnG tE K cs (w.alloc (Obj.cells #[] tE)) B (.slice (some ⟨w.heap.size, 0, none⟩) 0 0) [] :=
  ⟨by simp, .inr ⟨w.heap.size, 0, #[], rfl, hB, heap_alloc_new w _, Nat.le_refl _, Nat.zero_le _, by simp, by simp⟩⟩
theorem OwnG.next {w w' : World} {B : Nat} {v : Value} {l : List α} (h : OwnG tE K cs w B v l) (hb : Below w.heap.size w w') : OwnG tE K cs w' B v l :=
  World.ownsRow.kept (row := none) h ⟨hb.os, hb.tape, hb.output, hb.size, fun k hk _ => hb.block k hk⟩ (Classical.em _)
theorem OwnG.keepB {w w' : World} {B g n c : Nat} {l : List α} (h : OwnG tE K cs w B (.slice (some ⟨g, 0, none⟩) n c) l) (e : w'.heap[g]? = w.heap[g]?) : OwnG tE K cs w' B (.slice (some ⟨g, 0, none⟩) n c) l := by
  refine ⟨h.1, ?_⟩
  rcases h.2 with ⟨h0, _⟩ | ⟨g', c', cur, hv, hB, hh, hr⟩
  · cases h0
  · cases hv
    exact .inr ⟨g, c, cur, rfl, hB, e.trans hh, hr⟩
theorem OwnG.row {w : World} {B g n c : Nat} {l : List α} (hK : ∀ x, (cs x).length = K) (h : OwnG tE K cs w B (.slice (some ⟨g, 0, none⟩) n c) l) :
    n = l.length ∧ n ≤ c ∧ c ≤ maxLen ∧ B ≤ g ∧ g < w.heap.size ∧ (∀ i, w.frozen? ⟨g, i, none⟩ = false) ∧ ∀ j (hj : j < l.length) i v, (cs l[j])[i]? = some v → w.cell? ⟨g, j * K + i, none⟩ = some v := by
  have hlt := World.ownsRow.lt h g rfl
  rcases h.2 with ⟨e, _⟩ | ⟨g', c', cur, e, hB, hh, h1, h2, _⟩
  · cases e
  · cases e
    refine ⟨rfl, h1, h2, hB, hlt.2, fun i => ?_, fun j hj i v hv => ?_⟩
    · simp only [World.frozen?, hh, Bool.and_eq_false_iff, decide_eq_false_iff_not]
      right; omega
    · have hi : i < K := by have := (List.getElem?_eq_some_iff.1 hv).1; rwa [hK] at this
      have hjl : j * K + i < l.length * K := by
        have := Nat.mul_le_mul_right K (show j + 1 ≤ l.length from hj)
        rw [Nat.add_mul] at this
        omega
      rw [World.ownsRow.cellAt h (j * K + i) hjl, flat_at hK l j hj i hi]
      exact hv
theorem below_grownG {w w' : World} {B n : Nat} {v : Value} {xs : List Value} (hown : w.ownsRow B tE K v n xs) (hB : B ≤ w.heap.size) (hg : w.grownBy w' v.ownBlock) : Below B w w' :=
  ⟨hg.os, hg.tape, hg.output, hg.size, fun k hk => hg.block k (by omega) (fun e => by have := (hown.lt k e.symm).1; omega)⟩

/-- 'l = append(l, x)' on a row that the call owns. -/
theorem wp_append_gen {P : Program} {w : World} {ops : Array Oper} {rest : List Oper} {o : Oper} {a : Act} {Q : Exit → Act → World → Prop} (T : TypeId) (hu : P.underlying T = some (.slice tE)) (zero : Value) (bytes : Nat) (hinfo : (P.info? tE).map (fun i => (i.zero, i.size, i.bytes)) = some (some zero, K, bytes)) (hz : zero.cells.size = K) (hK0 : 0 < K) (hby : bytes ≤ 512) (hgd : o.guard = none) (s x : Operand)
    (ho : o.op = .call { callee := .builtin .append, args := #[s, x], argTypes := #[T, T] })
    (B : Nat) (v : Value) (l : List α) (hs : a.eval s = v) (hown : OwnG tE K cs w B v l) (hK : ∀ x, (cs x).length = K)
    (N : Nat) (t : α) (hx : a.eval x = .slice (some ⟨N, 0, none⟩) 1 1) (hc : ∀ i v, (cs t)[i]? = some v → w.cell? ⟨N, i, none⟩ = some v) (h1 : ∀ v ∈ cs t, v.oneCell' = true) (hlen : l.length + 1 ≤ 100000000000) (hB : B ≤ w.heap.size)
    (h : ∀ g n cap w', n = (l ++ [t]).length → OwnG tE K cs w' B (.slice (some ⟨g, 0, none⟩) n cap) (l ++ [t]) → Below B w w' → w.grownBy w' v.ownBlock → (v.ownBlock = some g ∨ g = w.heap.size) → wpList P ops Q rest (a.put o.dst (.slice (some ⟨g, 0, none⟩) n cap)) w') : wpList P ops Q (o :: rest) a w := by
  obtain ⟨i0, hi, hz0, hz1, hz2⟩ := info_parts hinfo
  refine wpList_append_own_at w hgd s x T ho B tE i0 zero K bytes hu hi hz0 hz1 hz2 hz hK0 v l.length _ hs hown ⟨N, 0, none⟩ 1 1 (cs t) hx (by rw [hK]; omega) (fun j u hj => by rw [add_pick, Nat.zero_add]; exact hc j u hj) h1 (by unfold maxLen; omega) ?_ hB ?_
  · have := Nat.mul_le_mul hlen hby
    omega
  · intro v' w' ho' hg _ hat
    obtain ⟨g, cap, rfl⟩ : ∃ g cap, v' = .slice (some ⟨g, 0, none⟩) (l.length + 1) cap := by
      rcases ho'.2 with ⟨_, h0⟩ | ⟨g, cap, cur, hv, _⟩
      · omega
      · exact ⟨g, cap, hv⟩
    refine h g (l.length + 1) cap w' (by simp) ?_ (below_grownG hown hB hg) hg (by
      rcases hat with e | e
      · exact .inl e.symm
      · exact .inr (Option.some.inj e))
    unfold OwnG
    rw [List.flatMap_append, show [t].flatMap cs = cs t by simp, show (l ++ [t]).length = l.length + 1 by simp]
    exact ho'
end
end Go.Proofs.YtifnolomekhmfaaGreat
namespace Go.Proofs.YtifnolomekhmfaaGreat
open Go.RowKit
set_option linter.unusedVariables false

theorem step_append_gen {α : Type} {cs : α → List Value} {K0 : Nat} {tE : TypeId} {ops : Array Oper} {o : Oper} {a : Act} {w : World} {K : Act → World → Prop} {Q : Exit → Act → World → Prop} {E : Prop} (T : TypeId) (hu : Tryz.prog.underlying T = some (.slice tE)) (zero : Value) (bytes : Nat) (hinfo : (Tryz.prog.info? tE).map (fun i => (i.zero, i.size, i.bytes)) = some (some zero, K0, bytes)) (hz : zero.cells.size = K0) (hK0 : 0 < K0) (hby : bytes ≤ 512) (hgd : o.guard = none) (s x : Operand)
    (ho : o.op = .call { callee := .builtin .append, args := #[s, x], argTypes := #[T, T] })
    (B : Nat) (v : Value) (l : List α) (hs : a.eval s = v) (hown : OwnG tE K0 cs w B v l) (hK : ∀ x, (cs x).length = K0)
    (N : Nat) (t : α) (hx : a.eval x = .slice (some ⟨N, 0, none⟩) 1 1) (hc : ∀ i v, (cs t)[i]? = some v → w.cell? ⟨N, i, none⟩ = some v) (h1 : ∀ v ∈ cs t, v.oneCell' = true) (hlen : l.length + 1 ≤ 100000000000) (hB : B ≤ w.heap.size)
    (h : ∀ g n cap w', n = (l ++ [t]).length → OwnG tE K0 cs w' B (.slice (some ⟨g, 0, none⟩) n cap) (l ++ [t]) → Below B w w' → w.grownBy w' v.ownBlock → (v.ownBlock = some g ∨ g = w.heap.size) → K (a.put o.dst (.slice (some ⟨g, 0, none⟩) n cap)) w') :
    if Region.wanted o (yielded ops a.tmps) = true then Oper.wp Tryz.prog o a w K Q else E := by
  have hw : Region.wanted o (yielded ops a.tmps) = true := by simp [Region.wanted, hgd]
  rw [if_pos hw]
  obtain ⟨i0, hi, hz0, hz1, hz2⟩ := info_parts hinfo
  obtain ⟨v', w', hr, ho', hg, _, hat⟩ := run_append_own_at (P := Tryz.prog) (w := w) B T o.type tE i0 _ K0 bytes hu hi hz0 hz1 hz2 hz hK0 v l.length _ hown ⟨N, 0, none⟩ 1 1 (cs t) (by rw [hK]; omega) (fun j u hj => by rw [add_pick, Nat.zero_add]; exact hc j u hj) h1 (by unfold maxLen; omega) (by
    have := Nat.mul_le_mul hlen hby
    omega) hB
  unfold Oper.wp execOp
  simp only [ho, resolve, invoke, builtin, Sem.run_bind, Sem.run_pure, Result.andThen_ok, List.map_toArray, List.map_cons, List.map_nil, hs, hx, hr]
  obtain ⟨g, cap, rfl⟩ : ∃ g cap, v' = .slice (some ⟨g, 0, none⟩) (l.length + 1) cap := by
    rcases ho'.2 with ⟨_, h0⟩ | ⟨g, cap, cur, hv, _⟩
    · omega
    · exact ⟨g, cap, hv⟩
  refine h g (l.length + 1) cap w' (by simp) ?_ (below_grownG hown hB hg) hg (by
    rcases hat with e | e
    · exact .inl e.symm
    · exact .inr (Option.some.inj e))
  unfold OwnG
  rw [List.flatMap_append, show [t].flatMap cs = cs t by simp, show (l ++ [t]).length = l.length + 1 by simp]
  exact ho'
end Go.Proofs.YtifnolomekhmfaaGreat
namespace Go.Proofs.YtifnolomekhmfaaGreat
open Go.RowKit M

/-- string([]byte of one byte). -/
theorem conv_one (W : World) (x : Int) : (convert 22 9 (.slice (some ⟨W.heap.size, 0, none⟩) 1 1)).run Tryz.prog (W.alloc (.cells #[.int .u8 x] 5)) = .ok (.string ⟨#[UInt8.ofNat x.toNat]⟩) (W.alloc (.cells #[.int .u8 x] 5)) := by
  have h := run_convert_bytes_arg (P := Tryz.prog) (W.alloc (.cells #[.int .u8 x] 5)) 22 5 Tryz.underlying22 Tryz.underlying5 W.heap.size 0 1 1 [x] rfl (by
    intro i hi
    obtain rfl : i = 0 := by omega
    simp) 9 Tryz.underlying9
  exact h

theorem cat_one (c : UInt8) (t : List UInt8) : (⟨#[c]⟩ : ByteArray) ++ ⟨t.toArray⟩ = ⟨(c :: t).toArray⟩ := by
  apply ByteArray.ext
  simp

theorem low_form (m : Nat) : UInt8.ofNat (48 + m % 10) = decLow m := rfl
theorem low_form' (m : Nat) : 48 + UInt8.ofNat (m % 10) = decLow m := by
  unfold decLow
  rw [UInt8.ofNat_add]; rfl

set_option maxHeartbeats 1000000 in
theorem specNumText_pos (N : Nat) (w : World) (hN : N ≤ 9223372036854775807) :
    Calls Tryz.prog 106 #[.int .i64 N] w fun e w' => e = .returned (.string ⟨(Lib.decDigits N).toArray⟩) ∧ Below w.heap.size w w' := by
  have hcv := conv_one
  go_enter Tryz.func106, Tryz.ntmps106
  go_wp2
  go_loopw [0, 3] (fun n v wr => ∃ (m : Nat) (t : List UInt8), n = .int .i64 m ∧ v = .string ⟨t.toArray⟩ ∧ m ≤ 9223372036854775807 ∧ t.length + m ≤ N + 1 ∧ Lib.decDigits N = decAhead m ++ t ∧ Below w.heap.size w wr) (fun n _ _ => (intOf n).toNat)
  case atStart => exact ⟨N, [decLow N], rfl, by rw [low_form], hN, by simp; omega, decDigits_ahead N, (Below.refl _ _).alloc (Nat.le_refl _) _⟩
  case round =>
    obtain ⟨m, t, rfl, rfl, hm, ht, hd, hbe⟩ := hrel
    have HD : Hid (Lib.decDigits N = decAhead m ++ t) := hd; clear hd
    by_cases h9 : 9 < m
    · have h9' : (9 : Int) < (m : Int) := by omega
      go_wp2
      go_roundw
      case rel =>
        refine ⟨m / 10, decLow (m / 10) :: t, by go_num, by rw [low_form', cat_one], by omega, by simp; omega, ?_, hbe.alloc hbe.size _⟩
        rw [HD.out, decAhead_step m h9, List.append_assoc]; rfl
      case measure => simp [intOf]; omega
    · go_wp2
      go_ret
      exact ⟨ret_str (by rw [HD.out, decAhead_end m h9]; rfl), hbe⟩

set_option maxHeartbeats 400000 in
theorem specNumText_neg (n : Int) (w : World) (hn : n < 0) :
    Calls Tryz.prog 106 #[.int .i64 n] w fun e w' => e = .returned (.string ⟨(Lib.decDigits 0).toArray⟩) ∧ Below w.heap.size w w' := by
  have hcv := conv_one
  go_enter Tryz.func106, Tryz.ntmps106
  go_wp2
  go_loopw [0, 3] (fun n v wr => n = .int .i64 0 ∧ v = .string ⟨#[48]⟩ ∧ Below w.heap.size w wr) (fun n _ _ => (intOf n).toNat)
  case atStart => exact ⟨rfl, rfl, (Below.refl _ _).alloc (Nat.le_refl _) _⟩
  case round =>
    obtain ⟨rfl, rfl, hbe⟩ := hrel
    go_wp2
    go_ret
    exact ⟨ret_str (l := [48]) (by rw [decDigits_ahead]; rfl), hbe⟩

theorem specNumText_any (n : Int) (w : World) (hn : n ≤ 9223372036854775807) :
    Calls Tryz.prog 106 #[.int .i64 n] w fun e w' => e = .returned (.string ⟨(Lib.decDigits n.toNat).toArray⟩) ∧ Below w.heap.size w w' := by
  by_cases h : n < 0
  · have e : n.toNat = 0 := by omega
    rw [e]; exact specNumText_neg n w h
  · obtain ⟨m, rfl⟩ := Int.eq_ofNat_of_zero_le (by omega : 0 ≤ n)
    rw [Int.toNat_natCast]
    exact specNumText_pos m w (by omega)
end Go.Proofs.YtifnolomekhmfaaGreat
