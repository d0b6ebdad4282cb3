/-
  Whether two trees are the same, by the laws' own helps.
-/
import Derived.Test.YtclnpfpaabmkcabNodes
import Derived.Test.YtclnpfpaabmkcabRet
import Derived.Deep.RegionHeld3
namespace Go.Proofs.Ytclnpfpaabmkcab
open Go.RowKit M
set_option linter.unusedVariables false

def EqS (K : Nat) : Prop := ∀ (ks ls : List Nd) (a b : Option Addr) (cap cap' B C : Nat) (w : World), cntL ks < K → Nds w B a ks → Nds w C b ls → B ≤ w.heap.size → C ≤ w.heap.size → ks.length ≤ maxLen → ls.length ≤ maxLen → shortK ks → shortK ls →
    Calls Try.prog 80 #[.slice a ks.length cap, .slice b ls.length cap'] w fun e w' => e = .returned (.bool (sameK ks ls)) ∧ Below w.heap.size w w'

set_option maxHeartbeats 1000000 in
theorem eqNode_of (K : Nat) (ih : EqS K) (n m : Nd) (a b : Option Addr) (cap cap' B C : Nat) (w : World) (hn : cntL n.ks < K) (h : Nds w B a n.ks) (h' : Nds w C b m.ks) (hB : B ≤ w.heap.size) (hC : C ≤ w.heap.size) (hs : n.short) (hs' : m.short) :
    Calls Try.prog 34 #[.agg #[.string n.ns, .string n.nm, .string n.tx, .slice a n.ks.length cap], .agg #[.string m.ns, .string m.nm, .string m.tx, .slice b m.ks.length cap']] w fun e w' => e = .returned (.bool (n.same m)) ∧ Below w.heap.size w w' := by
  rw [short_ks] at hs hs'
  have F1 : Hid (¬ n.ns = m.ns → n.same m = false) := fun h => by rw [same_ks]; simp [h]
  have F2 : Hid (¬ n.nm = m.nm → n.same m = false) := fun h => by rw [same_ks]; simp [h]
  have F3 : Hid (¬ n.tx = m.tx → n.same m = false) := fun h => by rw [same_ks]; simp [h]
  have F4 : Hid (n.ns = m.ns → n.nm = m.nm → n.tx = m.tx → n.same m = sameK n.ks m.ks) := fun h1 h2 h3 => by rw [same_ks]; simp [h1, h2, h3]
  generalize n.same m = q at *
  obtain ⟨ra, rb, rc, ks⟩ := n
  obtain ⟨sa, sb, sc, ls⟩ := m
  simp only [Nd.ns, Nd.nm, Nd.tx, Nd.ks] at *
  have hb0 : Below w.heap.size w ((w.alloc (Obj.cells #[Value.string ra, Value.string rb, Value.string rc, Value.slice a ks.length cap] 59)).alloc (Obj.cells #[Value.string sa, Value.string sb, Value.string sc, Value.slice b ls.length cap'] 59)) := ((Below.refl _ _).alloc (Nat.le_refl _) _).alloc (by simp) _
  have hE := ih ks ls a b cap cap' B C _ hn (h.stays hb0 hB) (h'.stays hb0 hC) (by simp; omega) (by simp; omega) hs.2.2.2.1 hs'.2.2.2.1 hs.2.2.2.2 hs'.2.2.2.2
  clear ih h h' hs hs'
  generalize sameK ks ls = z at *
  by_cases h1 : ra = sa
  · have e1 := eqStrN h1
    by_cases h2 : rb = sb
    · have e2 := eqStrN h2
      by_cases h3 : rc = sc
      · have e3 := eqStrN h3
        have hz := F4.out h1 h2 h3
        rw [hz]
        clear h1 h2 h3 hz
        cases z
        all_goals
          go_enter Try.func34, Try.ntmps34
          go_wp2_with fail
          refine hE.mono ?_
          rintro e w1 ⟨rfl, hb1⟩
          have c1 := hb0.trans (hb1.mono hb0.size)
          go_wp2
          go_ret
          exact ⟨rfl, c1⟩
      · have e3 := neStrN h3
        have hz := F3.out h3
        rw [hz]
        clear h1 h2 h3 hz hE
        go_enter Try.func34, Try.ntmps34
        go_wp2
        go_ret
        exact ⟨rfl, hb0⟩
    · have e2 := neStrN h2
      have hz := F2.out h2
      rw [hz]
      clear h1 h2 hz hE
      go_enter Try.func34, Try.ntmps34
      go_wp2
      go_ret
      exact ⟨rfl, hb0⟩
  · have e1 := neStrN h1
    have hz := F1.out h1
    rw [hz]
    clear h1 hz hE
    go_enter Try.func34, Try.ntmps34
    go_wp2
    go_ret
    exact ⟨rfl, hb0⟩

set_option maxHeartbeats 1000000 in
theorem eqNodeS_all : ∀ K, EqS K := by
  intro K
  induction K with
  | zero => intro ks ls a b cap cap' B C w hn; exact absurd hn (Nat.not_lt_zero _)
  | succ K ih =>
    intro ks ls a b cap cap' B C w hn h h' hB hC hl hl' hs hs'
    have HI : Hid (EqS K) := ih
    clear ih
    unfold maxLen at hl hl'
    by_cases hlen : ks.length = ls.length
    · have HL : Hid (ks.length = ls.length) := hlen
      go_enter Try.func80, Try.ntmps80
      rw [← hlen]
      clear hlen
      go_wp2
      go_loopw [5] (fun i wr => ∃ k : Nat, k ≤ ks.length ∧ i = .int .i64 k ∧ sameK (ks.drop k) (ls.drop k) = sameK ks ls ∧ Below w.heap.size w wr) (fun i _ => ks.length - (intOf i).toNat)
      case atStart => exact ⟨0, Nat.zero_le _, rfl, rfl, Below.refl _ _⟩
      case round =>
        obtain ⟨k, hk, rfl, ht, hbe⟩ := hrel
        by_cases hlt : k < ks.length
        · have hlt' : k < ls.length := by have := HL.out; omega
          rw [sameK_drop hlt hlt'] at ht
          have HT := hide ht
          clear ht
          obtain ⟨b1, o1, rfl, hb1, hc1⟩ := (h.stays hbe hB).at (by omega)
          obtain ⟨b2, o2, rfl, hb2, hc2⟩ := (h'.stays hbe hC).at (by have := HL.out; omega)
          obtain ⟨ak, ck, hx0, hx1, hx2, hx3, hkx⟩ := hc1 k hlt
          obtain ⟨al, cl, hy0, hy1, hy2, hy3, hky⟩ := hc2 k hlt'
          clear hc1 hc2
          have hcn : cntL (ks[k]).ks < K := by have := cntL_at ks k hlt; omega
          have hl1 : b1 < wr.drew.heap.size := by have := hbe.size; show b1 < wr.heap.size; omega
          have hl2 : b2 < wr.drew.heap.size := by have := hbe.size; show b2 < wr.heap.size; omega
          have hbd : Below w.heap.size w wr.drew := below_drewN hbe
          have hq := eqNode_of K HI.out ks[k] ls[k] ak al ck cl B C wr.drew hcn hkx.drew hky.drew (Nat.le_trans hB hbd.size) (Nat.le_trans hC hbd.size) (shortK_at ks hs k hlt) (shortK_at ls hs' k hlt')
          have HX := hide (And.intro hx0 (And.intro hx1 (And.intro hx2 (And.intro hx3 (And.intro hy0 (And.intro hy1 (And.intro hy2 hy3)))))))
          generalize hz : (ks[k]).same ls[k] = z at hq
          rw [hz] at HT
          clear hz
          cases z
          · go_wp2
            go_region_held3 (fun W => W.cell? ⟨b1, o1 + k * 4, none⟩ = some (.string ks[k].ns) ∧ W.cell? ⟨b1, o1 + k * 4 + 1, none⟩ = some (.string ks[k].nm) ∧ W.cell? ⟨b1, o1 + k * 4 + 2, none⟩ = some (.string ks[k].tx) ∧ W.cell? ⟨b1, o1 + k * 4 + 3, none⟩ = some (.slice ak ks[k].ks.length ck) ∧ W.cell? ⟨b2, o2 + k * 4, none⟩ = some (.string ls[k].ns) ∧ W.cell? ⟨b2, o2 + k * 4 + 1, none⟩ = some (.string ls[k].nm) ∧ W.cell? ⟨b2, o2 + k * 4 + 2, none⟩ = some (.string ls[k].tx) ∧ W.cell? ⟨b2, o2 + k * 4 + 3, none⟩ = some (.slice al ls[k].ks.length cl)) (first | exact HX.out | exact HX2.out) ((go_at_call 34; refine hq.mono ?_; rintro e w1 ⟨rfl, hb3⟩; have HX2 := hide (keep8N hb3 hl1 hl2 HX.out)))
            all_goals
              have c1 := hbd.trans (hb3.mono hbd.size)
              clear hq hb3
              go_wp2
              go_ret
              exact ⟨ret_bool (by have := HT.out; simpa using this), c1⟩
          · go_wp2
            go_region_held3 (fun W => W.cell? ⟨b1, o1 + k * 4, none⟩ = some (.string ks[k].ns) ∧ W.cell? ⟨b1, o1 + k * 4 + 1, none⟩ = some (.string ks[k].nm) ∧ W.cell? ⟨b1, o1 + k * 4 + 2, none⟩ = some (.string ks[k].tx) ∧ W.cell? ⟨b1, o1 + k * 4 + 3, none⟩ = some (.slice ak ks[k].ks.length ck) ∧ W.cell? ⟨b2, o2 + k * 4, none⟩ = some (.string ls[k].ns) ∧ W.cell? ⟨b2, o2 + k * 4 + 1, none⟩ = some (.string ls[k].nm) ∧ W.cell? ⟨b2, o2 + k * 4 + 2, none⟩ = some (.string ls[k].tx) ∧ W.cell? ⟨b2, o2 + k * 4 + 3, none⟩ = some (.slice al ls[k].ks.length cl)) (first | exact HX.out | exact HX2.out) ((go_at_call 34; refine hq.mono ?_; rintro e w1 ⟨rfl, hb3⟩; have HX2 := hide (keep8N hb3 hl1 hl2 HX.out)))
            all_goals
              have c1 := hbd.trans (hb3.mono hbd.size)
              clear hq hb3
              go_wp2
              go_roundw
              case rel => exact ⟨k + 1, by omega, by go_num, by have := HT.out; simpa using this, c1⟩
              case measure => simp [intOf]; omega
        · go_wp2
          go_ret
          refine ⟨ret_bool ?_, hbe⟩
          rw [← ht, List.drop_of_length_le (by omega), List.drop_of_length_le (by have := HL.out; omega)]
          rfl
    · have HS := sameK_len ks ls hlen
      go_enter Try.func80, Try.ntmps80
      go_wp2
      go_ret
      exact ⟨ret_bool HS.symm, Below.refl _ _⟩

theorem eqNode_any (n m : Nd) (a b : Option Addr) (cap cap' B C : Nat) (w : World) (h : Nds w B a n.ks) (h' : Nds w C b m.ks) (hB : B ≤ w.heap.size) (hC : C ≤ w.heap.size) (hs : n.short) (hs' : m.short) :
    Calls Try.prog 34 #[.agg #[.string n.ns, .string n.nm, .string n.tx, .slice a n.ks.length cap], .agg #[.string m.ns, .string m.nm, .string m.tx, .slice b m.ks.length cap']] w fun e w' => e = .returned (.bool (n.same m)) ∧ Below w.heap.size w w' :=
  eqNode_of (cntL n.ks + 1) (eqNodeS_all _) n m a b cap cap' B C w (Nat.lt_succ_self _) h h' hB hC hs hs'
end Go.Proofs.Ytclnpfpaabmkcab
