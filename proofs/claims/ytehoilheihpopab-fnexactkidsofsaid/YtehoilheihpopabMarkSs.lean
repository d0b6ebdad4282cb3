/-
  What the laws' own helps on lists of lists of texts do: the same, marks, whether the marks are still there.
-/
import Derived.Test.YtehoilheihpopabRowsSS
import Derived.Test.YtehoilheihpopabMarksK
import Derived.Test.YtehoilheihpopabEqStrs
namespace Go.Proofs.Ytehoilheihpopab
open Go.RowKit M
set_option linter.unusedVariables false

def sameSS (ss tt : List (List ByteArray)) : Bool := decide (ss = tt)
theorem sameSS_refl (ss : List (List ByteArray)) : sameSS ss ss = true := by simp [sameSS]
theorem RowS.heapS {w w' : World} {b : Nat} {l : List ByteArray} (h : RowS w b l) (hz : w.heap.size ≤ w'.heap.size) (e : w'.heap[b]? = w.heap[b]?) : RowS w' b l :=
  ⟨Nat.lt_of_lt_of_le h.1 hz, fun j hj => by simp only [World.cell?, World.frozen?, e]; exact h.2 j hj⟩

set_option maxHeartbeats 2000000 in
/-- Two that hold the same. -/
theorem eqStringSS_same (a b : Option Addr) (ss : List (List ByteArray)) (cap cap' B C : Nat) (w : World) (h : Sss w B a ss) (h' : Sss w C b ss) (hB : B ≤ w.heap.size) (hC : C ≤ w.heap.size) (hl : ss.length ≤ maxLen) (hs : ∀ s ∈ ss, s.length ≤ maxLen) :
    Calls Try.prog 21 #[.slice a ss.length cap, .slice b ss.length cap'] w fun e w' => e = .returned (.bool true) ∧ Below w.heap.size w w' := by
  unfold maxLen at hl
  have HS := hide hs
  clear hs
  go_enter Try.func21, Try.ntmps21
  go_wp2
  go_loopw [5] (fun i wr => ∃ k : Nat, k ≤ ss.length ∧ i = .int .i64 k ∧ Below w.heap.size w wr) (fun i _ => ss.length - (intOf i).toNat)
  case atStart => exact ⟨0, Nat.zero_le _, rfl, Below.refl _ _⟩
  case round =>
    obtain ⟨k, hk, rfl, hbe⟩ := hrel
    by_cases hlt : k < ss.length
    · obtain ⟨b1, o1, rfl, hb1, hc1⟩ := (h.below hbe hB) (by omega)
      obtain ⟨b2, o2, rfl, hb2, hc2⟩ := (h'.below hbe hC) (by omega)
      obtain ⟨pa, pc, hx, hp⟩ := hc1 k hlt
      obtain ⟨pa', pc', hy, hp'⟩ := hc2 k hlt
      clear hc1 hc2
      have hl1 : b1 < wr.drew.heap.size := by have := hbe.size; show b1 < wr.heap.size; omega
      have hl2 : b2 < wr.drew.heap.size := by have := hbe.size; show b2 < wr.heap.size; omega
      have hbd : Below w.heap.size w wr.drew := ⟨hbe.os, hbe.tape, hbe.output, hbe.size, hbe.block⟩
      have hsk := HS.out _ (List.getElem_mem hlt)
      have hq := eqStringS_any pa pa' ss[k] ss[k] pc pc' B C wr.drew (fun h0 => hp h0) (fun h0 => hp' h0) hsk hsk
      rw [sameL_refl] at hq
      have HQ := hide hq
      clear hq hp hp'
      go_wp2
      go_region_held3 (fun W => W.cell? ⟨b1, o1 + k, none⟩ = some (.slice pa ss[k].length pc) ∧ W.cell? ⟨b2, o2 + k, none⟩ = some (.slice pa' ss[k].length pc')) (first | exact ⟨hx, hy⟩ | exact ⟨((hb3 (b1 + 1)).cell (p := ⟨b1, o1 + k, none⟩) (Nat.lt_succ_self _)).trans hx, ((hb3 (b2 + 1)).cell (p := ⟨b2, o2 + k, none⟩) (Nat.lt_succ_self _)).trans hy⟩) ((go_at_call 14; refine HQ.out.mono ?_; rintro e w1 ⟨rfl, hb3⟩))
      all_goals
        have c1 := hbd.trans (hb3 _)
        clear hb3
        go_wp2
        go_roundw
        case rel => exact ⟨k + 1, by omega, by go_num, c1⟩
        case measure => simp [intOf]; omega
    · go_wp2
      go_ret
      exact ⟨rfl, hbe⟩

/-- Where the marks of list j begin. -/
def kS (k0 : Nat) (ls : List (List ByteArray)) (j : Nat) : Nat := k0 + ((ls.take j).map (·.length)).sum
theorem kS_next (k0 : Nat) (ls : List (List ByteArray)) (j : Nat) (hj : j < ls.length) : kS k0 ls (j + 1) = kS k0 ls j + ls[j].length := by
  unfold kS
  rw [List.take_succ_eq_append_getElem hj, List.map_append, List.sum_append]
  simp only [List.map_cons, List.map_nil, List.sum_cons, List.sum_nil]
  omega
theorem kS_mono (k0 : Nat) (ls : List (List ByteArray)) (j : Nat) : k0 ≤ kS k0 ls j ∧ kS k0 ls j ≤ k0 + (ls.map (·.length)).sum := by
  unfold kS
  have h : ((ls.take j).map (·.length)).sum + ((ls.drop j).map (·.length)).sum = (ls.map (·.length)).sum := by
    rw [← List.sum_append, ← List.map_append, List.take_append_drop]
  omega

/-- A row of lists, the first i of them marked. -/
structure MixS (w : World) (lo hi g : Nat) (ls : List (List ByteArray)) (pb K : Nat → Nat) (i : Nat) : Prop where
  gl : lo ≤ g
  gh : g < hi
  gs : g < w.heap.size
  cl : ∀ j (hj : j < ls.length), ∃ pc, w.cell? ⟨g, j, none⟩ = some (.slice (some ⟨pb j, 0, none⟩) ls[j].length pc)
  bnd : ∀ j, j < ls.length → lo ≤ pb j ∧ pb j < hi ∧ pb j ≠ g
  ord : ∀ i j, i < j → j < ls.length → pb i < pb j
  rp : ∀ j (hj : j < ls.length), j < i → RowS w (pb j) (marks (K j) ls[j].length)
  rq : ∀ j (hj : j < ls.length), i ≤ j → RowS w (pb j) ls[j]
theorem OwnSS.mix {w : World} {lo hi g : Nat} {ls : List (List ByteArray)} {pb : Nat → Nat} (h : OwnSS w lo hi g ls pb) (K : Nat → Nat) : MixS w lo hi g ls pb K 0 :=
  ⟨h.gl, h.gh, h.gs, h.cl, h.bnd, h.ord, fun j _ hj => absurd hj (Nat.not_lt_zero _), fun j hj _ => h.rp j hj⟩
theorem MixS.heap {w w' : World} {lo hi g : Nat} {ls : List (List ByteArray)} {pb K : Nat → Nat} {i : Nat} (h : MixS w lo hi g ls pb K i) (hz : w.heap.size ≤ w'.heap.size) (e : ∀ b, lo ≤ b → b < hi → b < w.heap.size → w'.heap[b]? = w.heap[b]?) : MixS w' lo hi g ls pb K i := by
  have eg := e g h.gl h.gh h.gs
  refine ⟨h.gl, h.gh, Nat.lt_of_lt_of_le h.gs hz, fun j hj => by simp only [World.cell?, eg]; exact h.cl j hj, h.bnd, h.ord, fun j hj hji => ?_, fun j hj hji => ?_⟩
  · obtain ⟨b1, b2, _⟩ := h.bnd j hj
    have h1 := h.rp j hj hji
    exact h1.heapS hz (e _ b1 b2 h1.1)
  · obtain ⟨b1, b2, _⟩ := h.bnd j hj
    have h1 := h.rq j hj hji
    exact h1.heapS hz (e _ b1 b2 h1.1)
theorem MixS.below {w w' : World} {lo hi g : Nat} {ls : List (List ByteArray)} {pb K : Nat → Nat} {i : Nat} (h : MixS w lo hi g ls pb K i) (hb : Below w.heap.size w w') : MixS w' lo hi g ls pb K i :=
  h.heap hb.size (fun b _ _ hz => hb.block b hz)
theorem MixS.round {w w1 : World} {lo hi g : Nat} {ls : List (List ByteArray)} {pb K : Nat → Nat} {i : Nat} (h : MixS w lo hi g ls pb K i) (hi' : i < ls.length) (r1 : RowS w1 (pb i) (marks (K i) ls[i].length)) (t1 : Turn (· = pb i) w w1) : MixS w1 lo hi g ls pb K (i + 1) := by
  obtain ⟨b1, b2, b3⟩ := h.bnd i hi'
  refine ⟨h.gl, h.gh, Nat.lt_of_lt_of_le h.gs t1.size, fun j hj => ?_, h.bnd, h.ord, fun j hj hji => ?_, fun j hj hji => ?_⟩
  · rw [t1.cell h.gs (fun e => b3 e.symm) j]; exact h.cl j hj
  · by_cases e : j = i
    · subst e; exact r1
    · have h1 := h.rp j hj (by omega)
      have := h.ord j i (by omega) hi'
      exact h1.heapS t1.size (t1.block _ h1.1 (by omega))
  · have h1 := h.rq j hj (by omega)
    have := h.ord i j (by omega) hj
    exact h1.heapS t1.size (t1.block _ h1.1 (by omega))

set_option maxRecDepth 100000 in
set_option maxHeartbeats 2000000 in
theorem markStringSS_from (lo hi g cap k0 : Nat) (ls : List (List ByteArray)) (pb : Nat → Nat) (hl : ls.length ≤ 1048576) (hs : (ls.map (·.length)).sum ≤ 1048576) (hk1 : 1 ≤ k0) (hk0 : k0 ≤ 10000000) (w : World) (h : OwnSS w lo hi g ls pb) :
    Calls Try.prog 23 #[.slice (some ⟨g, 0, none⟩) ls.length cap, .int .i64 k0] w fun e w' => e = .returned (.int .i64 ((kS k0 ls ls.length : Nat) : Int)) ∧ MixS w' lo hi g ls pb (kS k0 ls) ls.length ∧ Turn (fun x => lo ≤ x ∧ x < hi) w w' := by
  have HSZ := hide hs
  have h0 := h.mix (kS k0 ls)
  have hg0 : kS k0 ls 0 = k0 := by simp [kS]
  clear hs h
  go_enter Try.func23, Try.ntmps23
  go_wp2
  go_loopw [1, 5] (fun kv i wr => ∃ (j : Nat), j ≤ ls.length ∧ i = .int .i64 j ∧ kv = .int .i64 ((kS k0 ls j : Nat) : Int) ∧ MixS wr lo hi g ls pb (kS k0 ls) j ∧ Turn (fun x => lo ≤ x ∧ x < hi) w wr) (fun _ i _ => ls.length - (intOf i).toNat)
  case atStart => exact ⟨0, Nat.zero_le _, rfl, by rw [hg0], h0, Turn.refl _ _⟩
  case round =>
    obtain ⟨j, hj, rfl, rfl, hR, hbe⟩ := hrel
    by_cases hlt : j < ls.length
    · have HN := hide (kS_next k0 ls j hlt)
      have hb1 := kS_mono k0 ls j
      have hb2 := kS_mono k0 ls (j + 1)
      have hkb : kS k0 ls j + ls[j].length ≤ 20000000 ∧ 1 ≤ kS k0 ls j ∧ ls[j].length ≤ 1048576 := by have := HSZ.out; have := HN.out; omega
      clear hb1 hb2
      obtain ⟨pc, hs0⟩ := hR.cl j hlt
      have rq := hR.rq j hlt (Nat.le_refl _)
      have HB := hide (hR.bnd j hlt)
      have HM := hide (markStringS_from (pb j) ls[j].length pc (kS k0 ls j) ls[j] rfl hkb.2.2 hkb.2.1 (by omega) wr rq)
      have HR := hide hR
      clear hkb rq hR
      go_wp2_with fail
      refine HM.out.mono ?_
      rintro e w1 ⟨rfl, r1, t1⟩
      have HR2 := hide (HR.out.round hlt r1 t1)
      have HT := hide (hbe.trans (t1.wide (T := fun x => lo ≤ x ∧ x < hi) (fun x hx => by subst hx; exact ⟨HB.out.1, HB.out.2.1⟩)))
      clear r1 t1 HM HR
      go_wp2
      go_roundw
      case rel => exact ⟨j + 1, by omega, by go_num, (by rw [HN.out]; first | rfl | (congr 1; omega)), HR2.out, HT.out⟩
      case measure => simp [intOf]; omega
    · have hjn : j = ls.length := by omega
      subst hjn
      go_wp2
      go_ret
      exact ⟨rfl, hR, hbe⟩

set_option maxRecDepth 100000 in
set_option maxHeartbeats 2000000 in
theorem heldStringSS_from (lo hi g cap k0 : Nat) (ls : List (List ByteArray)) (pb : Nat → Nat) (hl : ls.length ≤ 1048576) (hs : (ls.map (·.length)).sum ≤ 1048576) (hk1 : 1 ≤ k0) (hk0 : k0 ≤ 10000000) (w : World) (h : MixS w lo hi g ls pb (kS k0 ls) ls.length) :
    Calls Try.prog 24 #[.slice (some ⟨g, 0, none⟩) ls.length cap, .int .i64 k0] w fun e w' => e = .returned (.int .i64 ((kS k0 ls ls.length : Nat) : Int)) ∧ Below w.heap.size w w' := by
  have HSZ := hide hs
  have hg0 : kS k0 ls 0 = k0 := by simp [kS]
  clear hs
  go_enter Try.func24, Try.ntmps24
  go_wp2
  go_loopw [1, 5] (fun kv i wr => ∃ (j : Nat), j ≤ ls.length ∧ i = .int .i64 j ∧ kv = .int .i64 ((kS k0 ls j : Nat) : Int) ∧ Below w.heap.size w wr) (fun _ i _ => ls.length - (intOf i).toNat)
  case atStart => exact ⟨0, Nat.zero_le _, rfl, by rw [hg0], Below.refl _ _⟩
  case round =>
    obtain ⟨j, hj, rfl, rfl, hbe⟩ := hrel
    by_cases hlt : j < ls.length
    · have HN := hide (kS_next k0 ls j hlt)
      have hb1 := kS_mono k0 ls j
      have hb2 := kS_mono k0 ls (j + 1)
      have hkb : kS k0 ls j + ls[j].length ≤ 20000000 ∧ 1 ≤ kS k0 ls j ∧ ls[j].length ≤ 1048576 := by have := HSZ.out; have := HN.out; omega
      clear hb1 hb2
      have hR := h.below hbe
      obtain ⟨pc, hs0⟩ := hR.cl j hlt
      have HM := hide (heldStringS_from (pb j) ls[j].length pc (kS k0 ls j) hkb.2.2 hkb.2.1 (by omega) wr (hR.rp j hlt hlt))
      have hk2 := hkb.1
      clear hkb hR
      go_wp2_with fail
      refine HM.out.mono ?_
      rintro e w1 ⟨rfl, b1⟩
      have c1 := hbe.trans (b1.mono hbe.size)
      clear HM b1
      go_wp2
      go_roundw
      case rel => exact ⟨j + 1, by omega, by go_num, (by rw [HN.out]; first | rfl | (congr 1; omega)), c1⟩
      case measure => simp [intOf]; omega
    · have hjn : j = ls.length := by omega
      subst hjn
      go_wp2
      go_ret
      exact ⟨rfl, hbe⟩
end Go.Proofs.Ytehoilheihpopab
