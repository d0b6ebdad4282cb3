/-
  What slices.IndexFunc at what is known and impl.placeOf do.
-/
import Derived.Test.YtkgdmlfdlkmojaaLessProp
import Derived.Test.YtkgdmlfdlkmojaaMathSets
namespace Go.Proofs.Ytkgdmlfdlkmojaa
open Go.RowKit M
set_option linter.unusedVariables false

def Cell3 (W : World) (N : Nat) (p : Pp) : Prop := W.cell? ⟨N, 0, none⟩ = some (.string p.1) ∧ W.cell? ⟨N, 1, none⟩ = some (.string p.2.1) ∧ W.cell? ⟨N, 2, none⟩ = some (.string p.2.2)
theorem Cell3.below {W w1 : World} {N : Nat} {p : Pp} (h : Cell3 W N p) (hb : Below W.heap.size W w1) : Cell3 w1 N p := by
  have hN : N < W.heap.size := World.block_lt_of_cell? W _ h.1
  unfold Cell3
  simp only [(bcellP hb).1 N _ hN]
  exact h

set_option maxHeartbeats 1000000 in
theorem notLess_any (q p : Pp) (N : Nat) (w : World) (h : Cell3 w N p) :
    Calls Try.prog 89 #[.agg #[.string q.1, .string q.2.1, .string q.2.2], .pointer (some ⟨N, 0, none⟩)] w fun e w' => e = .returned (.bool (!lessP q p)) ∧ Below w.heap.size w w' := by
  have HL := hide (fun W => lessProp_any q p W)
  have HB := hide ((Below.refl w.heap.size w).alloc (Nat.le_refl _) (Obj.cells #[.string q.1, .string q.2.1, .string q.2.2] 36))
  obtain ⟨h0, h1, h2⟩ := h.below HB.out
  go_enter Try.func89, Try.ntmps89
  go_wp2_with fail
  refine (HL.out _).mono ?_
  rintro e w1 ⟨rfl, b1⟩
  have c1 := HB.out.trans (b1.mono HB.out.size)
  go_wp2
  go_ret
  exact ⟨rfl, c1⟩

/-- The place as slices.IndexFunc tells it. -/
def plcI (p : Pp) (ps : List Pp) : Int := if plcL p ps < ps.length then (plcL p ps : Int) else -1

set_option maxHeartbeats 2000000 in
theorem indexProp_any (a : Option Addr) (ps : List Pp) (cap B N : Nat) (p : Pp) (w : World) (h : Pps w B a ps) (hB : B ≤ w.heap.size) (hl : ps.length ≤ maxLen) (hN : Cell3 w N p) :
    Calls Try.prog 88 #[.slice a ps.length cap, .func (.func 89) #[] #[.pointer (some ⟨N, 0, none⟩)]] w fun e w' => e = .returned (.int .i64 (plcI p ps)) ∧ Below w.heap.size w w' := by
  unfold maxLen at hl
  go_enter Try.func88, Try.ntmps88
  go_wp2
  go_loopw [8] (fun i wr => ∃ k : Nat, k ≤ ps.length ∧ i = .int .i64 k ∧ Hid (∀ j (hj : j < ps.length), j < k → lessP ps[j] p = true) ∧ Below w.heap.size w wr) (fun i _ => ps.length - (intOf i).toNat)
  case atStart => exact ⟨0, Nat.zero_le _, rfl, fun j _ hj => absurd hj (by omega), Below.refl _ _⟩
  case round =>
    obtain ⟨k, hk, rfl, hn, hbe⟩ := hrel
    by_cases hlt : k < ps.length
    · obtain ⟨b, o, rfl, hb, hc⟩ := (h.below hbe hB) (by omega)
      obtain ⟨hcx, hcy, hcz⟩ := hc k hlt
      clear hc
      have HQ := hide (notLess_any ps[k] p N wr (hN.below hbe))
      have HAT := hide (fun e => plc_at p ps k hlt hn.out e)
      obtain ⟨z, hz⟩ : ∃ z, lessP ps[k] p = z := ⟨_, rfl⟩
      rw [hz] at HQ
      have HZ := hide hz
      clear hz
      go_wp2_with fail
      refine HQ.out.mono ?_
      rintro e w1 ⟨rfl, b1⟩
      have c1 := hbe.trans (b1.mono hbe.size)
      cases z
      · have HE := hide (show plcI p ps = (k : Int) by unfold plcI; rw [HAT.out HZ.out, if_pos hlt])
        go_wp2
        go_ret
        rw [HE.out]
        exact ⟨rfl, c1⟩
      · go_wp2
        go_roundw
        case rel => exact ⟨k + 1, by omega, by go_num, fun j hj hjk => if e : j = k then by subst e; exact HZ.out else hn.out j hj (by omega), c1⟩
        case measure => simp [intOf]; omega
    · have HE := hide (show plcI p ps = -1 by unfold plcI; rw [plc_none p ps (fun j hj => hn.out j hj (by omega)), if_neg (Nat.lt_irrefl _)])
      go_wp2
      go_ret
      rw [HE.out]
      exact ⟨rfl, hbe⟩

set_option maxHeartbeats 2000000 in
theorem placeOf_any (a : Option Addr) (ps : List Pp) (cap B : Nat) (p : Pp) (w : World) (h : Pps w B a ps) (hB : B ≤ w.heap.size) (hl : ps.length ≤ maxLen) :
    Calls Try.prog 74 #[.slice a ps.length cap, .agg #[.string p.1, .string p.2.1, .string p.2.2]] w fun e w' => e = .returned (.int .i64 (plcL p ps)) ∧ Below w.heap.size w w' := by
  have hmf : ∀ (fn : Fn) (first cap : Array Value) (w : World), (Instr.makeFunc fn first cap).run Try.prog w = .ok (.func fn first cap) w := fun _ _ _ _ => rfl
  have HB := hide ((Below.refl w.heap.size w).alloc (Nat.le_refl _) (Obj.cells #[.string p.1, .string p.2.1, .string p.2.2] 36))
  have HI := hide (indexProp_any a ps cap B w.heap.size p _ (h.below HB.out hB) (Nat.le_trans hB HB.out.size) hl (by unfold Cell3; simp))
  have HLE := hide (plc_le p ps)
  have HE := hide (show plcI p ps = if plcL p ps < ps.length then (plcL p ps : Int) else -1 from rfl)
  generalize plcI p ps = r at *
  go_enter Try.func74, Try.ntmps74
  go_wp2_with fail
  refine HI.out.mono ?_
  rintro e w1 ⟨rfl, b1⟩
  have c1 := HB.out.trans (b1.mono HB.out.size)
  by_cases hlt : plcL p ps < ps.length
  · have hr : r = (plcL p ps : Int) := by rw [HE.out, if_pos hlt]
    subst hr
    go_wp2
    go_ret
    exact ⟨rfl, c1⟩
  · have hr : r = -1 := by rw [HE.out, if_neg hlt]
    subst hr
    have HQ := hide (show plcL p ps = ps.length by have := HLE.out; omega)
    clear hlt
    go_wp2
    go_ret
    rw [HQ.out]
    exact ⟨rfl, c1⟩
end Go.Proofs.Ytkgdmlfdlkmojaa
