/-
  Whether two slices of what is known hold the same, where they do: what laws.sameProps does.
  Whether two slices of things hold the same, where they do: what laws.sameProps, sameRes and sameTree do.
  Which keys a map of texts has.
-/
import Derived.Test.YtclnpfpaabmkcaaGreatMathOrder
import Derived.Test.YtclnpfpaabmkcaaGreatEqBs
import Derived.Laws.StructEq
import Derived.Test.YtclnpfpaabmkcaaGreatSameTexts
import Derived.Deep.RegionHeld3
import Derived.Test.YtclnpfpaabmkcaaGreatRows
import Derived.Maps.OwnOps
import Derived.Maps.OwnSet
import Derived.Maps.Views
import Derived.StringKeys
namespace Go.Proofs.YtclnpfpaabmkcaaGreat
open Go.RowKit M
set_option linter.unusedVariables false

set_option maxHeartbeats 1000000 in
theorem sameProps_same (a b : Option Addr) (ps : List Pp) (cap cap' B C : Nat) (w : World) (h : Pps w B a ps) (h' : Pps w C b ps) (hl : ps.length ≤ maxLen) :
    Calls Tryz.prog 15 #[.slice a ps.length cap, .slice b ps.length cap'] w fun e w' => e = .returned (.bool true) ∧ ∀ D, Below D w w' := by
  unfold maxLen at hl
  go_enter Tryz.func15, Tryz.ntmps15
  go_wp2
  go_loopw [5] (fun i wr => ∃ k n : Nat, k ≤ ps.length ∧ i = .int .i64 k ∧ wr = w.drewN n) (fun i _ => ps.length - (intOf i).toNat)
  case atStart => exact ⟨0, 0, Nat.zero_le _, rfl, rfl⟩
  case round =>
    obtain ⟨k, n, hk, rfl, rfl⟩ := hrel
    by_cases hlt : k < ps.length
    · obtain ⟨b1, o1, rfl, hb1, hc1⟩ := h (by omega)
      obtain ⟨b2, o2, rfl, hb2, hc2⟩ := h' (by omega)
      obtain ⟨hx0, hx1, hx2⟩ := hc1 k hlt
      obtain ⟨hy0, hy1, hy2⟩ := hc2 k hlt
      clear hc1 hc2
      go_wp2
      go_quiet (fail)
      go_wp2
      go_roundw
      case rel => exact ⟨k + 1, n + nq, by omega, by go_num, by simp⟩
      case measure => simp [intOf]; omega
    · go_wp2
      go_ret
      exact ⟨rfl, fun D => below_drewN (Below.refl _ _) _⟩
end Go.Proofs.YtclnpfpaabmkcaaGreat
namespace Go.Proofs.YtclnpfpaabmkcaaGreat
open Go.RowKit M
set_option linter.unusedVariables false

theorem keep10S {W w1 : World} {b1 b2 o1 o2 : Nat} {r s : Rs} {pa : Option Addr} {pc : Nat} {qa : Option Addr} {qc : Nat} {pa' : Option Addr} {pc' : Nat} {qa' : Option Addr} {qc' : Nat} (hb : Below W.heap.size W w1) (h1 : b1 < W.heap.size) (h2 : b2 < W.heap.size)
    (h : RsAt W b1 o1 r pa pc qa qc ∧ RsAt W b2 o2 s pa' pc' qa' qc') : RsAt w1 b1 o1 r pa pc qa qc ∧ RsAt w1 b2 o2 s pa' pc' qa' qc' :=
  ⟨h.1.of (fun o' => (bcellP hb).1 b1 o' h1), h.2.of (fun o' => (bcellP hb).1 b2 o' h2)⟩

set_option maxRecDepth 100000 in
set_option maxHeartbeats 2000000 in
theorem sameRes_same (r : Rs) (pa : Option Addr) (pc : Nat) (qa : Option Addr) (qc : Nat) (pa' : Option Addr) (pc' : Nat) (qa' : Option Addr) (qc' : Nat) (B C : Nat) (w : World) (h : RsIn w B r pa pc qa qc) (h' : RsIn w C r pa' pc' qa' qc') (hB : B ≤ w.heap.size) (hC : C ≤ w.heap.size) :
    Calls Tryz.prog 16 #[.agg #[.slice pa r.pa.length pc, .bool r.co, .string r.bo, .int .i64 r.ve, .slice qa r.ps.length qc], .agg #[.slice pa' r.pa.length pc', .bool r.co, .string r.bo, .int .i64 r.ve, .slice qa' r.ps.length qc']] w fun e w' => e = .returned (.bool true) ∧ Below w.heap.size w w' := by
  have l1 : r.pa.length ≤ maxLen := Nat.le_trans h.pl h.pm
  have l2 : r.ps.length ≤ maxLen := Nat.le_trans h.ql h.qm
  have HB := hide (((Below.refl w.heap.size w).alloc (Nat.le_refl _) (Obj.cells #[.slice pa r.pa.length pc, .bool r.co, .string r.bo, .int .i64 r.ve, .slice qa r.ps.length qc] 35)).alloc (by simp) (Obj.cells #[.slice pa' r.pa.length pc', .bool r.co, .string r.bo, .int .i64 r.ve, .slice qa' r.ps.length qc'] 35))
  have HS1 := hide (fun W (hW : Below w.heap.size w W) => sameTexts_any pa pa' r.pa r.pa pc pc' B C W (h.ph.below hW hB) (h'.ph.below hW hC) l1 l1)
  have HS2 := hide (fun W (hW : Below w.heap.size w W) => sameProps_same qa qa' r.ps qc qc' B C W (h.qh.below hW hB) (h'.qh.below hW hC) l2)
  have HC1 := hide (show let W := ((w.alloc (Obj.cells #[.slice pa r.pa.length pc, .bool r.co, .string r.bo, .int .i64 r.ve, .slice qa r.ps.length qc] 35)).alloc (Obj.cells #[.slice pa' r.pa.length pc', .bool r.co, .string r.bo, .int .i64 r.ve, .slice qa' r.ps.length qc'] 35)); RsAt W w.heap.size 0 r pa pc qa qc ∧ RsAt W (w.heap.size + 1) 0 r pa' pc' qa' qc' by
    refine ⟨⟨?_, ?_, ?_, ?_, ?_⟩, ⟨?_, ?_, ?_, ?_, ?_⟩⟩ <;> simp [go_sem])
  have HQ1 := hide (HS1.out _ HB.out)
  simp only [sameL_refl] at HQ1
  have e1 : (r.co == r.co) = true := beq_self_eq_true _
  have e2 : (r.bo.toList == r.bo.toList) = true := beq_self_eq_true _
  have e3 : (r.ve == r.ve) = true := beq_self_eq_true _
  go_enter Tryz.func16, Tryz.ntmps16
  go_wp2_with fail
  refine HQ1.out.mono ?_
  rintro e w1 ⟨rfl, b1'⟩
  have b1 := b1' ((w.alloc (Obj.cells #[.slice pa r.pa.length pc, .bool r.co, .string r.bo, .int .i64 r.ve, .slice qa r.ps.length qc] 35)).alloc (Obj.cells #[.slice pa' r.pa.length pc', .bool r.co, .string r.bo, .int .i64 r.ve, .slice qa' r.ps.length qc'] 35)).heap.size
  have c1 := HB.out.trans (b1.mono HB.out.size)
  obtain ⟨hx, hy⟩ := HC1.out
  have hx' := hx.of (w' := w1) (fun o' => (bcellP b1).1 _ o' (by simp; omega))
  have hy' := hy.of (w' := w1) (fun o' => (bcellP b1).1 _ o' (by simp))
  obtain ⟨hx0, hx1, hx2, hx3, hx4⟩ := hx'
  obtain ⟨hy0, hy1, hy2, hy3, hy4⟩ := hy'
  simp only [Nat.zero_add] at hx0 hx1 hx2 hx3 hx4 hy0 hy1 hy2 hy3 hy4
  have HQ2 := hide (HS2.out w1 c1)
  clear hx hy b1' b1 HC1
  go_wp2_with fail
  refine HQ2.out.mono ?_
  rintro e w2 ⟨rfl, b2'⟩
  have c2 := c1.trans (b2' w.heap.size)
  go_wp2
  go_ret
  exact ⟨rfl, c2⟩

set_option maxRecDepth 100000 in
set_option maxHeartbeats 2000000 in
theorem sameTree_same (a b : Option Addr) (ss : List Rs) (cap cap' B C : Nat) (w : World) (h : Rss w B a ss) (h' : Rss w C b ss) (hB : B ≤ w.heap.size) (hC : C ≤ w.heap.size) (hl : ss.length ≤ maxLen) :
    Calls Tryz.prog 12 #[.slice a ss.length cap, .slice b ss.length cap'] w fun e w' => e = .returned (.bool true) ∧ Below w.heap.size w w' := by
  unfold maxLen at hl
  go_enter Tryz.func12, Tryz.ntmps12
  go_wp2
  go_loopw [5] (fun i wr => ∃ k : Nat, k ≤ ss.length ∧ i = .int .i64 k ∧ Below w.heap.size w wr) (fun i _ => ss.length - (intOf i).toNat)
  case atStart => exact ⟨0, Nat.zero_le _, rfl, Below.refl _ _⟩
  case round =>
    obtain ⟨k, hk, rfl, hbe⟩ := hrel
    by_cases hlt : k < ss.length
    · obtain ⟨b1, o1, rfl, hb1, hc1⟩ := (h.below hbe hB) (by omega)
      obtain ⟨b2, o2, rfl, hb2, hc2⟩ := (h'.below hbe hC) (by omega)
      obtain ⟨pa, pc, qa, qc, ha1, hi1⟩ := hc1 k hlt
      obtain ⟨pa', pc', qa', qc', ha2, hi2⟩ := hc2 k hlt
      clear hc1 hc2
      have hl1 : b1 < wr.drew.heap.size := by have := hbe.size; show b1 < wr.heap.size; omega
      have hl2 : b2 < wr.drew.heap.size := by have := hbe.size; show b2 < wr.heap.size; omega
      have hbd : Below w.heap.size w wr.drew := below_drewP hbe
      have hq := sameRes_same ss[k] pa pc qa qc pa' pc' qa' qc' B C wr.drew hi1.drew hi2.drew (Nat.le_trans hB hbd.size) (Nat.le_trans hC hbd.size)
      have HX := hide (And.intro (ha1.of (w' := wr.drew) (fun _ => rfl)) (ha2.of (w' := wr.drew) (fun _ => rfl)))
      obtain ⟨hx0, hx1, hx2, hx3, hx4⟩ := ha1
      obtain ⟨hy0, hy1, hy2, hy3, hy4⟩ := ha2
      clear hi1 hi2
      go_wp2
      go_region_held3 (fun W => (W.cell? ⟨b1, o1 + k * 5, none⟩ = some (.slice pa ss[k].pa.length pc) ∧ W.cell? ⟨b1, o1 + k * 5 + 1, none⟩ = some (.bool ss[k].co) ∧ W.cell? ⟨b1, o1 + k * 5 + 2, none⟩ = some (.string ss[k].bo) ∧ W.cell? ⟨b1, o1 + k * 5 + 3, none⟩ = some (.int .i64 ss[k].ve) ∧ W.cell? ⟨b1, o1 + k * 5 + 4, none⟩ = some (.slice qa ss[k].ps.length qc)) ∧ (W.cell? ⟨b2, o2 + k * 5, none⟩ = some (.slice pa' ss[k].pa.length pc') ∧ W.cell? ⟨b2, o2 + k * 5 + 1, none⟩ = some (.bool ss[k].co) ∧ W.cell? ⟨b2, o2 + k * 5 + 2, none⟩ = some (.string ss[k].bo) ∧ W.cell? ⟨b2, o2 + k * 5 + 3, none⟩ = some (.int .i64 ss[k].ve) ∧ W.cell? ⟨b2, o2 + k * 5 + 4, none⟩ = some (.slice qa' ss[k].ps.length qc'))) (first | exact HX.out | exact HX2.out) ((go_at_call 16; refine hq.mono ?_; rintro e w1 ⟨rfl, hb3⟩; have HX2 := hide (keep10S hb3 hl1 hl2 HX.out)))
      all_goals
        have c1 := hbd.trans (hb3.mono hbd.size)
        clear hq hb3
        go_wp2
        go_roundw
        case rel => exact ⟨k + 1, by omega, by go_num, c1⟩
        case measure => simp [intOf]; omega
    · go_wp2
      go_ret
      exact ⟨rfl, hbe⟩
end Go.Proofs.YtclnpfpaabmkcaaGreat
namespace Go.Proofs.YtclnpfpaabmkcaaGreat
open Go.RowKit Go.Maps

/-- Its keys are just the texts of which P holds. -/
def Holds (D : DataW Unit) (P : ByteArray → Prop) : Prop := ∃ es, D = .map es ∧ ∀ k : Lit, (∃ p ∈ es, p.1 = k) ↔ ∃ s : ByteArray, P s ∧ k = .string s.data.toList

theorem key_inj {s t : ByteArray} (h : Lit.string s.data.toList = .string t.data.toList) : s = t := by
  have : s.data.toList = t.data.toList := by injection h
  exact ByteArray.ext (Array.ext' this)
theorem mem_insertK (x : Lit × DataW Unit) : ∀ (l : List (Lit × DataW Unit)) (p : Lit × DataW Unit), p ∈ DataW.insert x l ↔ p = x ∨ p ∈ l
  | [], p => by simp [DataW.insert]
  | y :: r, p => by
    rw [DataW.insert]
    by_cases h : x.1.before y.1 = true
    · rw [if_pos h]; simp
    · rw [if_neg h, List.mem_cons, mem_insertK x r p, List.mem_cons]
      constructor
      · rintro (h | h | h)
        · exact .inr (.inl h)
        · exact .inl h
        · exact .inr (.inr h)
      · rintro (h | h | h)
        · exact .inr (.inl h)
        · exact .inl h
        · exact .inr (.inr h)
theorem Holds.nil : Holds (.map []) (fun _ => False) := ⟨[], rfl, fun k => ⟨(fun ⟨_, h, _⟩ => by cases h), (fun ⟨_, h, _⟩ => h.elim)⟩⟩
theorem not_key {k : Lit} {p : Lit × DataW Unit} (hk : WideAt.IsKeyLit k) : (!p.1.sameKey k) = true ↔ p.1 ≠ k := by
  constructor
  · intro h e
    rw [e, WideAt.sameKey_self hk] at h
    cases h
  · intro h
    cases hs : p.1.sameKey k
    · rfl
    · exact absurd (WideAt.sameKey_eq hs) h
theorem Holds.put {D : DataW Unit} {P : ByteArray → Prop} (h : Holds D P) (s : ByteArray) (d : DataW Unit) : Holds (D.put (.string s.data.toList) d) (fun x => x = s ∨ P x) := by
  obtain ⟨es, rfl, hk⟩ := h
  refine ⟨_, rfl, fun k => ?_⟩
  constructor
  · rintro ⟨p, hp, rfl⟩
    rcases (mem_insertK _ _ p).1 hp with rfl | hp
    · exact ⟨s, .inl rfl, rfl⟩
    · obtain ⟨t, ht, e⟩ := (hk p.1).1 ⟨p, (List.mem_filter.1 hp).1, rfl⟩
      exact ⟨t, .inr ht, e⟩
  · rintro ⟨t, ht, rfl⟩
    by_cases e : t = s
    · subst e
      exact ⟨_, (mem_insertK _ _ _).2 (.inl rfl), rfl⟩
    · rcases ht with ht | ht
      · exact absurd ht e
      · obtain ⟨p, hp, e2⟩ := (hk _).2 ⟨t, ht, rfl⟩
        refine ⟨p, (mem_insertK _ _ _).2 (.inr (List.mem_filter.2 ⟨hp, (not_key (by trivial)).2 ?_⟩)), e2⟩
        rw [e2]
        exact fun e3 => e (key_inj e3)
theorem Holds.del {D : DataW Unit} {P : ByteArray → Prop} (h : Holds D P) (s : ByteArray) : Holds (D.del (.string s.data.toList)) (fun x => P x ∧ x ≠ s) := by
  obtain ⟨es, rfl, hk⟩ := h
  refine ⟨_, rfl, fun k => ?_⟩
  constructor
  · rintro ⟨p, hp, rfl⟩
    obtain ⟨h1, h2⟩ := List.mem_filter.1 hp
    obtain ⟨t, ht, e⟩ := (hk p.1).1 ⟨p, h1, rfl⟩
    refine ⟨t, ⟨ht, fun e2 => ?_⟩, e⟩
    have h3 := (not_key (k := .string s.data.toList) (by trivial)).1 h2
    rw [e, e2] at h3
    exact h3 rfl
  · rintro ⟨t, ⟨ht, hne⟩, rfl⟩
    obtain ⟨p, hp, e2⟩ := (hk _).2 ⟨t, ht, rfl⟩
    refine ⟨p, List.mem_filter.2 ⟨hp, (not_key (by trivial)).2 ?_⟩, e2⟩
    rw [e2]
    exact fun e3 => hne (key_inj e3)
theorem Holds.size {D : DataW Unit} {P : ByteArray → Prop} (h : Holds D P) : Maps.size D = 0 ↔ ∀ s, ¬ P s := by
  obtain ⟨es, rfl, hk⟩ := h
  rw [size_eq]
  constructor
  · intro h0 s hs
    have : es = [] := List.length_eq_zero_iff.1 h0
    subst this
    obtain ⟨p, hp, _⟩ := (hk _).2 ⟨s, hs, rfl⟩
    cases hp
  · intro h0
    cases es with
    | nil => rfl
    | cons p r =>
      obtain ⟨s, hs, _⟩ := (hk p.1).1 ⟨p, by simp, rfl⟩
      exact absurd hs (h0 s)
theorem Holds.same {D : DataW Unit} {P Q : ByteArray → Prop} (h : Holds D P) (e : ∀ s, P s ↔ Q s) : Holds D Q := by
  obtain ⟨es, rfl, hk⟩ := h
  refine ⟨es, rfl, fun k => (hk k).trans ?_⟩
  constructor
  · rintro ⟨s, hs, e2⟩; exact ⟨s, (e s).1 hs, e2⟩
  · rintro ⟨s, hs, e2⟩; exact ⟨s, (e s).2 hs, e2⟩
end Go.Proofs.YtclnpfpaabmkcaaGreat
