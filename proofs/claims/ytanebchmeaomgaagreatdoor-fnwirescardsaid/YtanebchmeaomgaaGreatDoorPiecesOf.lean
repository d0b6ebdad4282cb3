/-
  What the program's piecesOf gives: the pieces that a body is cut into, one behind the other.
-/
import Derived.RangeFuncNested
import Derived.RangeFuncBound
import Derived.RangeFuncCalls
import Derived.RangeFuncLeaves
import Derived.RangeFuncBox
import Derived.Shelf.Abstract
import Derived.Shelf.RegionOpen
import Derived.WalkKit
import Derived.OwnWalkIn
import Derived.TacticsInMore
import Derived.LoopNIn
import Derived.LoopIn
import Derived.Test.YtanebchmeaomgaaGreatDoorMathCutB
import Derived.Test.YtanebchmeaomgaaGreatDoorHeads
namespace Go.Proofs.YtanebchmeaomgaaGreatDoor
open Go.RowKit Go.Shelf M
set_option linter.unusedVariables false
attribute [local go_sem] Oper.semAt_some

def pcsB (ns : List Int) (b : ByteArray) : List ByteArray := (pcsC ns b.data.toList).map bytesOf
theorem pcsB_skip {n : Int} {r : List Int} {b : ByteArray} (h : n < 1 ∨ b.size = 0) : pcsB (n :: r) b = pcsB r b := by
  unfold pcsB
  rw [pcsC, if_pos]
  rcases h with h | h
  · exact .inl h
  · right; exact List.length_eq_zero_iff.1 (by rw [Array.length_toList]; exact h)
theorem pcsB_step {n : Int} {r : List Int} {b : ByteArray} (h : 1 ≤ n) (hb : b.size ≠ 0) (m : Nat) (hm : m = min n.toNat b.size) : pcsB (n :: r) b = b.extract 0 m :: pcsB r (b.extract m b.size) := by
  have hl : b.data.toList.length = b.size := Array.length_toList
  have hne : b.data.toList ≠ [] := fun e => hb (by rw [← hl, e]; rfl)
  have e1 : b.data.toList.take n.toNat = b.data.toList.take m := by
    rw [hm]
    by_cases h2 : n.toNat ≤ b.size
    · rw [Nat.min_eq_left h2]
    · rw [Nat.min_eq_right (by omega), List.take_of_length_le (by omega), List.take_of_length_le (by omega)]
  have e2 : b.data.toList.drop n.toNat = b.data.toList.drop m := by
    rw [hm]
    by_cases h2 : n.toNat ≤ b.size
    · rw [Nat.min_eq_left h2]
    · rw [Nat.min_eq_right (by omega), List.drop_of_length_le (by omega), List.drop_of_length_le (by omega)]
  unfold pcsB
  rw [pcsC, if_neg (by rintro (h1 | h1); omega; exact hne h1), List.map_cons, e1, e2, cut_to, cut_from]
theorem pcsB_end {b : ByteArray} : pcsB [] b = if b.size = 0 then [] else [b] := by
  have hl : b.data.toList.length = b.size := Array.length_toList
  unfold pcsB
  rw [pcsC]
  by_cases h : b.size = 0
  · rw [if_pos h, if_pos (List.length_eq_zero_iff.1 (by omega))]; rfl
  · rw [if_neg h, if_neg (fun e => h (by rw [← hl, e]; rfl))]
    rfl

set_option maxRecDepth 100000 in
set_option maxHeartbeats 2000000 in
theorem pieces1_in (F : Fence) (n : Nat) (h1 : F.fn 133) (hro : F.round = none) (hn : 1 ≤ n) (l Bb Bs n₀ : Nat) (s : ByteArray) (hs : s.size ≤ 1073741824) (a : Option Addr) (ns : List Int) (cap : Nat) (J Jx : List ByteArray → World → Prop) (hnl : ns.length ≤ 1073741824)
    (hY : ∀ pre x W, x.size ≤ s.size → J pre W → pre.length < (pcsB ns s).length → YieldAt F (n - 1) Tryz.prog l #[.string x] W fun e W' =>
      (e = .returned (.bool true) ∧ J (pre ++ [x]) W' ∧ Below n₀ W W') ∨ (e = .returned (.bool false) ∧ Jx (pre ++ [x]) W'))
    (W : World) (hBb : W.cell? ⟨Bb, 0, none⟩ = some (.string s)) (hBs : W.cell? ⟨Bs, 0, none⟩ = some (.slice a ns.length cap)) (hI : Ints W n₀ a ns) (h0 : J [] W) :
    CallsIn F n Tryz.prog 133 #[.func (.yield l) #[] #[], .pointer (some ⟨Bb, 0, none⟩), .pointer (some ⟨Bs, 0, none⟩)] W fun e W' => (∃ v, e = .returned v) ∧
      ((∃ ys, ys = pcsB ns s ∧ J ys W') ∨ (∃ pre, pre <+: pcsB ns s ∧ Jx pre W')) := by
  refine callsIn_of_wp Tryz.func133 rfl h1 ?_ hro
  simp only [Tryz.ntmps133, List.size_toArray, List.length_cons, List.length_nil, Nat.reduceAdd, Nat.reduceSub, Array.replicate_succ, Array.replicate_zero, List.push_toArray, List.append_toArray, List.nil_append, List.cons_append]
  gi_wp2
  gi_loopw [4, 11] (fun lv iv wr => ∃ (k : Nat) (t : ByteArray) (pre : List ByteArray), k ≤ ns.length ∧ iv = .int .i64 k ∧ lv = .string t ∧ t.size ≤ s.size ∧ pcsB ns s = pre ++ pcsB (ns.drop k) t ∧ J pre wr ∧ Ints wr n₀ a ns) (fun _ iv _ => ns.length - (intOf iv).toNat)
  case atStart => exact ⟨0, s, [], Nat.zero_le _, rfl, rfl, Nat.le_refl _, rfl, h0, hI⟩
  case round =>
    obtain ⟨k, t, pre, hk, rfl, rfl, ht, hx, hJs, hi⟩ := hrel
    have HX := hide hx
    have HJ := hide hJs
    have HI := hide hi
    clear hx hJs hi
    have ht2 : t.size ≤ 1073741824 := by omega
    by_cases hlt : k < ns.length
    · obtain ⟨b, o, rfl, hb, hc⟩ := HI.out (by omega)
      have hck := hc k hlt
      have hdr : ns.drop k = ns[k] :: ns.drop (k + 1) := List.drop_eq_getElem_cons hlt
      have HDr := hide hdr
      clear hc hdr
      obtain ⟨z, hz⟩ : ∃ z, ns[k] = z := ⟨_, rfl⟩
      rw [hz] at hck HDr
      clear hz
      by_cases hz1 : z < 1
      · have HS : Hid (pcsB ns s = pre ++ pcsB (ns.drop (k + 1)) t) := by show pcsB ns s = _; rw [HX.out, HDr.out, pcsB_skip (.inl hz1)]
        gi_wp2
        go_roundw
        case rel => exact ⟨k + 1, t, pre, by omega, by go_num, rfl, ht, HS.out, HJ.out, HI.out⟩
        case measure => simp [intOf]; omega
      · by_cases hte : t.size = 0
        · have hz : t.toList.isEmpty = true := by
            rw [ByteArray.toList_eq]
            have e : t.data.toList.length = t.size := Array.length_toList
            cases hq : t.data.toList with
            | nil => rfl
            | cons _ _ => rw [hq] at e; simp at e; omega
          have HS : Hid (pcsB ns s = pre ++ pcsB (ns.drop (k + 1)) t) := by show pcsB ns s = _; rw [HX.out, HDr.out, pcsB_skip (.inr hte)]
          clear hte
          gi_wp2
          go_roundw
          case rel => exact ⟨k + 1, t, pre, by omega, by go_num, rfl, ht, HS.out, HJ.out, HI.out⟩
          case measure => simp [intOf]; omega
        · have hz : t.toList.isEmpty = false := by
            rw [ByteArray.toList_eq]
            have e : t.data.toList.length = t.size := Array.length_toList
            cases hq : t.data.toList with
            | nil => rw [hq] at e; simp at e; omega
            | cons _ _ => rfl
          by_cases hzt : z ≤ t.size
          · obtain ⟨m, rfl⟩ := Int.eq_ofNat_of_zero_le (by omega : 0 ≤ z)
            have HS : Hid (pcsB ns s = pre ++ t.extract 0 m :: pcsB (ns.drop (k + 1)) (t.extract m t.size)) := by show pcsB ns s = _; rw [HX.out, HDr.out, pcsB_step (by omega) hte m (by omega)]
            have hmt : m ≤ t.size := by omega
            have hsz : (t.extract m t.size).size = t.size - m := by rw [ByteArray.size_extract]; omega
            obtain ⟨fn, tmps, assign, body, hy, hR⟩ := hY pre (t.extract 0 m) wr (by rw [ByteArray.size_extract]; omega) HJ.out (by rw [HS.out]; simp)
            clear hte
            have hmn : min (m : Int) (t.size : Int) = (m : Int) := Int.min_eq_left (by omega)
            gi_wp2
            refine hR.mono ?_
            rintro e W3 (⟨rfl, hJ3, hk3⟩ | ⟨rfl, hJx3⟩)
            · have HI3 := hide (HI.out.below hk3 (Nat.le_refl _))
              have HJ3 := hide hJ3
              clear hJ3 hy hR
              gi_wp2
              go_roundw
              case rel => exact ⟨k + 1, t.extract m t.size, pre ++ [t.extract 0 m], by omega, by go_num, rfl, by omega, by rw [HS.out]; simp, HJ3.out, HI3.out⟩
              case measure => simp [intOf]; omega
            · gi_wp2
              refine bodyPost_ret (results_none rfl _ _ _) rfl ?_
              exact ⟨⟨_, rfl⟩, .inr ⟨pre ++ [t.extract 0 m], ⟨pcsB (ns.drop (k + 1)) (t.extract m t.size), by rw [HS.out]; simp⟩, hJx3⟩⟩
          · have HS : Hid (pcsB ns s = pre ++ t :: pcsB (ns.drop (k + 1)) ByteArray.empty) := by
              show pcsB ns s = _
              rw [HX.out, HDr.out, pcsB_step (by omega) hte t.size (by omega), ByteArray.extract_zero_size, cut_none]
            obtain ⟨fn, tmps, assign, body, hy, hR⟩ := hY pre t wr ht HJ.out (by rw [HS.out]; simp)
            clear hte
            have hmn : min z (t.size : Int) = (t.size : Int) := Int.min_eq_right (by omega)
            gi_wp2
            refine hR.mono ?_
            rintro e W3 (⟨rfl, hJ3, hk3⟩ | ⟨rfl, hJx3⟩)
            · have HI3 := hide (HI.out.below hk3 (Nat.le_refl _))
              have HJ3 := hide hJ3
              clear hJ3 hy hR
              gi_wp2
              go_roundw
              case rel => exact ⟨k + 1, ByteArray.empty, pre ++ [t], by omega, by go_num, rfl, Nat.zero_le _, by rw [HS.out]; simp, HJ3.out, HI3.out⟩
              case measure => simp [intOf]; omega
            · gi_wp2
              refine bodyPost_ret (results_none rfl _ _ _) rfl ?_
              exact ⟨⟨_, rfl⟩, .inr ⟨pre ++ [t], ⟨pcsB (ns.drop (k + 1)) ByteArray.empty, by rw [HS.out]; simp⟩, hJx3⟩⟩
    · have HE : Hid (pcsB ns s = pre ++ pcsB [] t) := by show pcsB ns s = _; rw [HX.out, List.drop_of_length_le (by omega)]
      by_cases hte : t.size = 0
      · have hz : t.toList.isEmpty = true := by
          rw [ByteArray.toList_eq]
          have e : t.data.toList.length = t.size := Array.length_toList
          cases hq : t.data.toList with
          | nil => rfl
          | cons _ _ => rw [hq] at e; simp at e; omega
        have HE2 : Hid (pcsB ns s = pre) := by show pcsB ns s = _; rw [HE.out, pcsB_end, if_pos hte, List.append_nil]
        gi_wp2
        go_end0
        exact ⟨⟨_, rfl⟩, .inl ⟨pre, HE2.out.symm, HJ.out⟩⟩
      · have hz : t.toList.isEmpty = false := by
          rw [ByteArray.toList_eq]
          have e : t.data.toList.length = t.size := Array.length_toList
          cases hq : t.data.toList with
          | nil => rw [hq] at e; simp at e; omega
          | cons _ _ => rfl
        have HE2 : Hid (pcsB ns s = pre ++ [t]) := by show pcsB ns s = _; rw [HE.out, pcsB_end, if_neg hte]
        obtain ⟨fn, tmps, assign, body, hy, hR⟩ := hY pre t wr ht HJ.out (by rw [HE2.out]; simp)
        clear hte
        gi_wp2
        refine hR.mono ?_
        rintro e W3 (⟨rfl, hJ3, hk3⟩ | ⟨rfl, hJx3⟩)
        · gi_wp2
          go_end0
          exact ⟨⟨_, rfl⟩, .inl ⟨pre ++ [t], HE2.out.symm, hJ3⟩⟩
        · gi_wp2
          go_end0
          exact ⟨⟨_, rfl⟩, .inr ⟨pre ++ [t], by rw [HE2.out]; exact List.prefix_rfl, hJx3⟩⟩

set_option maxHeartbeats 1000000 in
/-- 'piecesOf' hands back a function that has the body and the sizes in boxes. -/
theorem piecesOf_in (F : Fence) (n : Nat) (h1 : F.fn 88) (hro : F.round = none) (s : ByteArray) (a : Option Addr) (m cap : Nat) (w : World) :
    CallsIn F n Tryz.prog 88 #[.string s, .slice a m cap] w fun e w' => e = .returned (.func (.func 133) #[] #[.pointer (some ⟨w.heap.size, 0, none⟩), .pointer (some ⟨w.heap.size + 1, 0, none⟩)]) ∧ w' = (w.alloc (.cells #[.string s] 9)).alloc (.cells #[.slice a m cap] 41) := by
  refine callsIn_of_wp Tryz.func88 rfl h1 ?_ hro
  simp only [Tryz.ntmps88, List.size_toArray, List.length_cons, List.length_nil, Nat.reduceAdd, Nat.reduceSub, Array.replicate_succ, Array.replicate_zero, List.push_toArray, List.append_toArray, List.nil_append, List.cons_append]
  gi_wp2
  go_ret
  exact ⟨rfl, rfl⟩

/-- A text that is not too long. -/
abbrev Pc := { x : ByteArray // x.size ≤ 1048576 }
def vals : List Pc → List ByteArray
  | [] => []
  | x :: r => x.1 :: vals r
theorem vals_snoc (ys : List Pc) (x : Pc) : vals (ys ++ [x]) = vals ys ++ [x.1] := by
  induction ys with
  | nil => rfl
  | cons y r ih => rw [List.cons_append, vals, ih]; rfl
theorem vals_len (ys : List Pc) : (vals ys).length = ys.length := by
  induction ys with
  | nil => rfl
  | cons y r ih => rw [vals, List.length_cons, ih]; rfl
/-- What it hands back gives the pieces, one behind the other. -/
theorem pieces_stops (F : Fence) (n : Nat) (h1 : F.fn 133) (hro : F.round = none) (hn : 1 ≤ n) (Bb Bs n₀ : Nat) (s : ByteArray) (hs : s.size ≤ 1048576) (a : Option Addr) (ns : List Int) (cap : Nat) (hnl : ns.length ≤ 1073741824) (w : World) (hb1 : Bb < w.heap.size) (hb2 : Bs < w.heap.size) (hn₀ : n₀ ≤ w.heap.size)
    (hBb : w.cell? ⟨Bb, 0, none⟩ = some (.string s)) (hBs : w.cell? ⟨Bs, 0, none⟩ = some (.slice a ns.length cap)) (hI : Ints w n₀ a ns) :
    SeqStopsK F n Tryz.prog 133 #[.pointer (some ⟨Bb, 0, none⟩), .pointer (some ⟨Bs, 0, none⟩)] (fun x : Pc => #[Value.string x.1]) (Below n₀) (fun ys => vals ys = pcsB ns s) (fun pre => vals pre <+: pcsB ns s) (pcsB ns s).length w := fun l J Jx W hW _ _ hY h0 => by
  refine (pieces1_in F n h1 hro hn l Bb Bs n₀ s (by omega) a ns cap (fun pre W => ∃ ys : List Pc, vals ys = pre ∧ J ys W) (fun pre W => ∃ ys : List Pc, vals ys = pre ∧ Jx ys W) hnl ?_ W ((hW.cell (p := ⟨Bb, 0, none⟩) hb1).trans hBb) ((hW.cell (p := ⟨Bs, 0, none⟩) hb2).trans hBs) (hI.below (hW.mono hn₀) (Nat.le_refl _)) ⟨[], rfl, h0⟩).mono ?_
  · rintro pre x W1 hx ⟨ys, rfl, hJ⟩ hlt
    obtain ⟨fn, tmps, assign, body, hy, hR⟩ := hY ys ⟨x, by omega⟩ W1 hJ (by rw [vals_len] at hlt; exact hlt)
    refine ⟨fn, tmps, assign, body, hy, hR.mono ?_⟩
    rintro e W2 (⟨rfl, h3, h4⟩ | ⟨rfl, h3⟩)
    · exact .inl ⟨rfl, ⟨_, vals_snoc _ _, h3⟩, h4⟩
    · exact .inr ⟨rfl, _, vals_snoc _ _, h3⟩
  · rintro e W2 ⟨hv, ⟨ys, rfl, zs, hz, hJ⟩ | ⟨pre, hp, zs, rfl, hJ⟩⟩
    · exact ⟨hv, .inl ⟨zs, hz, hJ⟩⟩
    · exact ⟨hv, .inr ⟨zs, hp, hJ⟩⟩
end Go.Proofs.YtanebchmeaomgaaGreatDoor
