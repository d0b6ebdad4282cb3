/-
  What the program's SameNode does.
  What the specification's SameNode does.
-/
import Derived.Test.YtccehdlgpbeijaaGreatDoorKinds
import Derived.Deep.RegionHeld3
namespace Go.Proofs.YtccehdlgpbeijaaGreatDoor
open Go.RowKit M
set_option linter.unusedVariables false

def ImS (K : Nat) : Prop := ∀ (n m : Nd) (a b : Option Addr) (cap cap' B C : Nat) (w : World), cntL n.ks < K → Nds w B a n.ks → Nds w C b m.ks → B ≤ w.heap.size → C ≤ w.heap.size → n.short → m.short →
    Calls Tryz.prog 18 #[.agg #[.string n.ns, .string n.nm, .string n.tx, .slice a n.ks.length cap], .agg #[.string m.ns, .string m.nm, .string m.tx, .slice b m.ks.length cap']] w fun e w' => e = .returned (.bool (n.same m)) ∧ Below w.heap.size w w'

set_option maxRecDepth 100000 in
set_option maxHeartbeats 4000000 in
theorem equalNodes (K : Nat) (ih : ImS K) (ks ls : List Nd) (a b : Option Addr) (cap cap' B C : Nat) (w : World) (hn : cntL ks < K + 1) (h : Nds w B a ks) (h' : Nds w C b ls) (hB : B ≤ w.heap.size) (hC : C ≤ w.heap.size) (hl : ks.length ≤ maxLen) (hl' : ls.length ≤ maxLen) (hs : shortK ks) (hs' : shortK ls) :
    Calls Tryz.prog 40 #[.slice a ks.length cap, .slice b ls.length cap', .func (.func 18) #[] #[]] w fun e w' => e = .returned (.bool (sameK ks ls)) ∧ Below w.heap.size w w' := by
  have HI : Hid (ImS K) := ih
  clear ih
  unfold maxLen at hl hl'
  by_cases hlen : ks.length = ls.length
  · have HL : Hid (ks.length = ls.length) := hlen
    go_enter Tryz.func40, Tryz.ntmps40
    rw [← hlen]
    clear hlen
    go_wp2
    go_loopw [17] (fun i wr => ∃ k : Nat, k ≤ ks.length ∧ i = .int .i64 k ∧ sameK (ks.drop k) (ls.drop k) = sameK ks ls ∧ Below w.heap.size w wr) (fun i _ => ks.length - (intOf i).toNat)
    case atStart => exact ⟨0, Nat.zero_le _, rfl, rfl, Below.refl _ _⟩
    case round =>
      obtain ⟨k, hk, rfl, ht, hbe⟩ := hrel
      by_cases hlt : k < ks.length
      · have hlt' : k < ls.length := by have := HL.out; omega
        rw [sameK_drop hlt hlt'] at ht
        have HT := hide ht
        clear ht
        obtain ⟨b1, o1, rfl, hb1, hc1⟩ := (h.stays hbe hB).at (by omega)
        obtain ⟨b2, o2, rfl, hb2, hc2⟩ := (h'.stays hbe hC).at (by have := HL.out; omega)
        obtain ⟨ak, ck, hx0, hx1, hx2, hx3, hkx⟩ := hc1 k hlt
        obtain ⟨al, cl, hy0, hy1, hy2, hy3, hky⟩ := hc2 k hlt'
        clear hc1 hc2
        have hcn : cntL (ks[k]).ks < K := by have := cntL_at ks k hlt; omega
        have hq1 : b1 < wr.heap.size := by have := hbe.size; omega
        have hq2 : b2 < wr.heap.size := by have := hbe.size; omega
        have HBA := hide (((Below.refl wr.heap.size wr).alloc (Nat.le_refl _) (Obj.cells #[.string (ks[k]).ns, .string (ks[k]).nm, .string (ks[k]).tx, .slice ak (ks[k]).ks.length ck] 26)).alloc (by simp) (Obj.cells #[.string (ls[k]).ns, .string (ls[k]).nm, .string (ls[k]).tx, .slice al (ls[k]).ks.length cl] 26))
        have hq := HI.out ks[k] ls[k] ak al ck cl B C _ hcn (hkx.stays HBA.out (Nat.le_trans hB hbe.size)) (hky.stays HBA.out (Nat.le_trans hC hbe.size)) (Nat.le_trans (Nat.le_trans hB hbe.size) HBA.out.size) (Nat.le_trans (Nat.le_trans hC hbe.size) HBA.out.size) (shortK_at ks hs k hlt) (shortK_at ls hs' k hlt')
        have HQ := hide hq
        clear hq
        generalize hz : (ks[k]).same ls[k] = z at HQ
        rw [hz] at HT
        clear hz
        cases z
        · go_wp2_with fail
          refine HQ.out.mono ?_
          rintro e w1 ⟨rfl, hb3⟩
          have c1 := hbe.trans ((HBA.out.trans (hb3.mono HBA.out.size)).mono hbe.size)
          go_wp2
          go_ret
          exact ⟨ret_bool (by have := HT.out; simpa using this), c1⟩
        · go_wp2_with fail
          refine HQ.out.mono ?_
          rintro e w1 ⟨rfl, hb3⟩
          have c1 := hbe.trans ((HBA.out.trans (hb3.mono HBA.out.size)).mono hbe.size)
          go_wp2
          go_roundw
          case rel => exact ⟨k + 1, by omega, by go_num, by have := HT.out; simpa using this, c1⟩
          case measure => simp [intOf]; omega
      · go_wp2
        go_ret
        refine ⟨ret_bool ?_, hbe⟩
        rw [← ht, List.drop_of_length_le (by omega), List.drop_of_length_le (by have := HL.out; omega)]
        rfl
  · have HS := sameK_len ks ls hlen
    go_enter Tryz.func40, Tryz.ntmps40
    go_wp2
    go_ret
    exact ⟨ret_bool HS.symm, Below.refl _ _⟩

set_option maxHeartbeats 1000000 in
theorem sameNode_step (K : Nat) (ih : ImS K) : ImS (K + 1) := by
  intro n m a b cap cap' B C w hn h h' hB hC hs hs'
  rw [short_ks] at hs hs'
  have F1 : Hid (¬ n.ns = m.ns → n.same m = false) := fun h => by rw [same_ks]; simp [h]
  have F2 : Hid (¬ n.nm = m.nm → n.same m = false) := fun h => by rw [same_ks]; simp [h]
  have F3 : Hid (¬ n.tx = m.tx → n.same m = false) := fun h => by rw [same_ks]; simp [h]
  have F4 : Hid (n.ns = m.ns → n.nm = m.nm → n.tx = m.tx → n.same m = sameK n.ks m.ks) := fun h1 h2 h3 => by rw [same_ks]; simp [h1, h2, h3]
  generalize n.same m = q at *
  obtain ⟨ra, rb, rc, ks⟩ := n
  obtain ⟨sa, sb, sc, ls⟩ := m
  simp only [Nd.ns, Nd.nm, Nd.tx, Nd.ks] at *
  have hb0 : Below w.heap.size w ((w.alloc (Obj.cells #[Value.string ra, Value.string rb, Value.string rc, Value.slice a ks.length cap] 26)).alloc (Obj.cells #[Value.string sa, Value.string sb, Value.string sc, Value.slice b ls.length cap'] 26)) := ((Below.refl _ _).alloc (Nat.le_refl _) _).alloc (by simp) _
  have hE := equalNodes K ih ks ls a b cap cap' B C _ hn (h.stays hb0 hB) (h'.stays hb0 hC) (Nat.le_trans hB hb0.size) (Nat.le_trans hC hb0.size) hs.2.2.2.1 hs'.2.2.2.1 hs.2.2.2.2 hs'.2.2.2.2
  have HE := hide hE
  clear ih h h' hs hs' hE
  generalize sameK ks ls = z at *
  by_cases h1 : ra = sa
  · have e1 := eqStrN h1
    by_cases h2 : rb = sb
    · have e2 := eqStrN h2
      by_cases h3 : rc = sc
      · have e3 := eqStrN h3
        have hz := F4.out h1 h2 h3
        rw [hz]
        clear h1 h2 h3 hz F1 F2 F3 F4
        go_enter Tryz.func18, Tryz.ntmps18
        go_wp2_with fail
        refine HE.out.mono ?_
        rintro e w1 ⟨rfl, hb1⟩
        have c1 := hb0.trans (hb1.mono hb0.size)
        go_wp2
        go_ret
        exact ⟨rfl, c1⟩
      · have e3 := neStrN h3
        have hz := F3.out h3
        rw [hz]
        clear h1 h2 h3 hz F1 F2 F3 F4
        go_enter Tryz.func18, Tryz.ntmps18
        go_wp2
        go_ret
        exact ⟨rfl, hb0⟩
    · have e2 := neStrN h2
      have hz := F2.out h2
      rw [hz]
      clear h1 h2 hz F1 F2 F3 F4
      go_enter Tryz.func18, Tryz.ntmps18
      go_wp2
      go_ret
      exact ⟨rfl, hb0⟩
  · have e1 := neStrN h1
    have hz := F1.out h1
    rw [hz]
    clear h1 hz F1 F2 F3 F4
    go_enter Tryz.func18, Tryz.ntmps18
    go_wp2
    go_ret
    exact ⟨rfl, hb0⟩

theorem sameNode_all : ∀ K, ImS K := by
  intro K
  induction K with
  | zero => intro n m a b cap cap' B C w hn; exact absurd hn (Nat.not_lt_zero _)
  | succ K ih => exact sameNode_step K ih
theorem sameNode_any (n m : Nd) (a b : Option Addr) (cap cap' B C : Nat) (w : World) (h : Nds w B a n.ks) (h' : Nds w C b m.ks) (hB : B ≤ w.heap.size) (hC : C ≤ w.heap.size) (hs : n.short) (hs' : m.short) :
    Calls Tryz.prog 18 #[.agg #[.string n.ns, .string n.nm, .string n.tx, .slice a n.ks.length cap], .agg #[.string m.ns, .string m.nm, .string m.tx, .slice b m.ks.length cap']] w fun e w' => e = .returned (.bool (n.same m)) ∧ Below w.heap.size w w' :=
  sameNode_all _ n m a b cap cap' B C w (Nat.lt_succ_self _) h h' hB hC hs hs'
end Go.Proofs.YtccehdlgpbeijaaGreatDoor
namespace Go.Proofs.YtccehdlgpbeijaaGreatDoor
open Go.RowKit M
set_option linter.unusedVariables false

def SpS (K : Nat) : Prop := ∀ (n m : Nd) (a b : Option Addr) (cap cap' B C : Nat) (w : World), cntL n.ks < K → Nds w B a n.ks → Nds w C b m.ks → B ≤ w.heap.size → C ≤ w.heap.size → n.short → m.short →
    Calls Tryz.prog 19 #[.agg #[.string n.ns, .string n.nm, .string n.tx, .slice a n.ks.length cap], .agg #[.string m.ns, .string m.nm, .string m.tx, .slice b m.ks.length cap']] w fun e w' => e = .returned (.bool (n.same m)) ∧ Below w.heap.size w w'

set_option maxRecDepth 100000 in
set_option maxHeartbeats 4000000 in
theorem specSameNode_step (K : Nat) (ih : SpS K) : SpS (K + 1) := by
  intro n m a b cap cap' B C w hn h h' hB hC hs hs'
  have HI : Hid (SpS K) := ih
  clear ih
  rw [short_ks] at hs hs'
  have F1 : Hid (¬ n.ns = m.ns → n.same m = false) := fun h => by rw [same_ks]; simp [h]
  have F2 : Hid (¬ n.nm = m.nm → n.same m = false) := fun h => by rw [same_ks]; simp [h]
  have F3 : Hid (¬ n.tx = m.tx → n.same m = false) := fun h => by rw [same_ks]; simp [h]
  have F5 : Hid (¬ n.ks.length = m.ks.length → n.same m = false) := fun h => by rw [same_ks, sameK_len _ _ h]; simp
  have F4 : Hid (n.ns = m.ns → n.nm = m.nm → n.tx = m.tx → sameK n.ks m.ks = n.same m) := fun h1 h2 h3 => by rw [same_ks]; simp [h1, h2, h3]
  generalize n.same m = q at *
  obtain ⟨ra, rb, rc, ks⟩ := n
  obtain ⟨sa, sb, sc, ls⟩ := m
  simp only [Nd.ns, Nd.nm, Nd.tx, Nd.ks] at *
  have hb0 : Below w.heap.size w ((w.alloc (Obj.cells #[Value.string ra, Value.string rb, Value.string rc, Value.slice a ks.length cap] 26)).alloc (Obj.cells #[Value.string sa, Value.string sb, Value.string sc, Value.slice b ls.length cap'] 26)) := ((Below.refl _ _).alloc (Nat.le_refl _) _).alloc (by simp) _
  have z1 := hs.2.2.2.1
  have z2 := hs'.2.2.2.1
  unfold maxLen at z1 z2
  by_cases h1 : ra = sa
  · have e1 := eqStrN h1
    by_cases h2 : rb = sb
    · have e2 := eqStrN h2
      by_cases h3 : rc = sc
      · have e3 := eqStrN h3
        by_cases hlen : ks.length = ls.length
        · have HR := hide (F4.out h1 h2 h3)
          have HL : Hid (ks.length = ls.length) := hlen
          have HB0 := hide hb0
          have HH := hide h
          have HH' := hide h'
          clear h1 h2 h3 F1 F2 F3 F4 F5 hb0 h h'
          have hle : ((ks.length : Int) != ls.length) = false := by simp [hlen]
          clear hlen
          go_enter Tryz.func19, Tryz.ntmps19
          go_wp2
          go_loopw [5] (fun i wr => ∃ k : Nat, k ≤ ks.length ∧ i = .int .i64 k ∧ sameK (ks.drop k) (ls.drop k) = q ∧ Below (w.heap.size + 2) ((w.alloc (Obj.cells #[Value.string ra, Value.string rb, Value.string rc, Value.slice a ks.length cap] 26)).alloc (Obj.cells #[Value.string sa, Value.string sb, Value.string sc, Value.slice b ls.length cap'] 26)) wr) (fun i _ => ks.length - (intOf i).toNat)
          case atStart => exact ⟨0, Nat.zero_le _, rfl, HR.out, Below.refl _ _⟩
          case round =>
            obtain ⟨k, hk, rfl, ht, hbe⟩ := hrel
            have u1 : wr.cell? ⟨w.heap.size, 3, none⟩ = some (.slice a ks.length cap) := by
              rw [hbe.cell (p := ⟨w.heap.size, 3, none⟩) (by simp)]; simp
            have u2 : wr.cell? ⟨w.heap.size + 1, 3, none⟩ = some (.slice b ls.length cap') := by
              rw [hbe.cell (p := ⟨w.heap.size + 1, 3, none⟩) (by simp)]; simp
            have hsz : w.heap.size + 2 ≤ wr.heap.size := by have := hbe.size; simpa using this
            have c0 : Below w.heap.size w wr := HB0.out.trans (hbe.mono (by omega))
            by_cases hlt : k < ks.length
            · have hlt' : k < ls.length := by have := HL.out; omega
              rw [sameK_drop hlt hlt'] at ht
              have HT := hide ht
              clear ht
              obtain ⟨b1, o1, rfl, hb1, hc1⟩ := (HH.out.stays c0 hB).at (by omega)
              obtain ⟨b2, o2, rfl, hb2, hc2⟩ := (HH'.out.stays c0 hC).at (by have := HL.out; omega)
              obtain ⟨ak, ck, hx0, hx1, hx2, hx3, hkx⟩ := hc1 k hlt
              obtain ⟨al, cl, hy0, hy1, hy2, hy3, hky⟩ := hc2 k hlt'
              clear hc1 hc2
              have hcn : cntL (ks[k]).ks < K := by have := cntL_at ks k hlt; omega
              have hl1 : b1 < wr.drew.heap.size := by show b1 < wr.heap.size; omega
              have hl2 : b2 < wr.drew.heap.size := by show b2 < wr.heap.size; omega
              have hl3 : w.heap.size < wr.drew.heap.size := by show w.heap.size < wr.heap.size; omega
              have hl4 : w.heap.size + 1 < wr.drew.heap.size := by show w.heap.size + 1 < wr.heap.size; omega
              have hbd : Below (w.heap.size + 2) _ wr.drew := below_drewN hbe
              have c0d : Below w.heap.size w wr.drew := below_drewN c0
              have hq := HI.out ks[k] ls[k] ak al ck cl B C wr.drew hcn hkx.drew hky.drew (Nat.le_trans hB c0d.size) (Nat.le_trans hC c0d.size) (shortK_at ks hs.2.2.2.2 k hlt) (shortK_at ls hs'.2.2.2.2 k hlt')
              have HX := hide (And.intro u1 (And.intro u2 (And.intro hx0 (And.intro hx1 (And.intro hx2 (And.intro hx3 (And.intro hy0 (And.intro hy1 (And.intro hy2 hy3)))))))))
              generalize hz : (ks[k]).same ls[k] = z at hq
              rw [hz] at HT
              clear hz
              have HQ := hide hq
              clear hq
              cases z
              · go_wp2
                go_region_held3 (fun W => W.cell? ⟨w.heap.size, 3, none⟩ = some (.slice (some ⟨b1, o1, none⟩) ks.length cap) ∧ W.cell? ⟨w.heap.size + 1, 3, none⟩ = some (.slice (some ⟨b2, o2, none⟩) ls.length cap') ∧ W.cell? ⟨b1, o1 + k * 4, none⟩ = some (.string ks[k].ns) ∧ W.cell? ⟨b1, o1 + k * 4 + 1, none⟩ = some (.string ks[k].nm) ∧ W.cell? ⟨b1, o1 + k * 4 + 2, none⟩ = some (.string ks[k].tx) ∧ W.cell? ⟨b1, o1 + k * 4 + 3, none⟩ = some (.slice ak ks[k].ks.length ck) ∧ W.cell? ⟨b2, o2 + k * 4, none⟩ = some (.string ls[k].ns) ∧ W.cell? ⟨b2, o2 + k * 4 + 1, none⟩ = some (.string ls[k].nm) ∧ W.cell? ⟨b2, o2 + k * 4 + 2, none⟩ = some (.string ls[k].tx) ∧ W.cell? ⟨b2, o2 + k * 4 + 3, none⟩ = some (.slice al ls[k].ks.length cl)) (first | exact HX.out | exact HX2.out) ((go_at_call 19; refine HQ.out.mono ?_; rintro e w1 ⟨rfl, hb3⟩; have HX2 := hide (And.intro (((bcellN hb3).1 _ _ hl3).trans HX.out.1) (And.intro (((bcellN hb3).1 _ _ hl4).trans HX.out.2.1) (keep8N hb3 hl1 hl2 HX.out.2.2)))))
                all_goals
                  have c1 := c0d.trans (hb3.mono c0d.size)
                  clear hb3
                  go_wp2
                  go_ret
                  exact ⟨ret_bool (by have := HT.out; simpa using this), c1⟩
              · go_wp2
                go_region_held3 (fun W => W.cell? ⟨w.heap.size, 3, none⟩ = some (.slice (some ⟨b1, o1, none⟩) ks.length cap) ∧ W.cell? ⟨w.heap.size + 1, 3, none⟩ = some (.slice (some ⟨b2, o2, none⟩) ls.length cap') ∧ W.cell? ⟨b1, o1 + k * 4, none⟩ = some (.string ks[k].ns) ∧ W.cell? ⟨b1, o1 + k * 4 + 1, none⟩ = some (.string ks[k].nm) ∧ W.cell? ⟨b1, o1 + k * 4 + 2, none⟩ = some (.string ks[k].tx) ∧ W.cell? ⟨b1, o1 + k * 4 + 3, none⟩ = some (.slice ak ks[k].ks.length ck) ∧ W.cell? ⟨b2, o2 + k * 4, none⟩ = some (.string ls[k].ns) ∧ W.cell? ⟨b2, o2 + k * 4 + 1, none⟩ = some (.string ls[k].nm) ∧ W.cell? ⟨b2, o2 + k * 4 + 2, none⟩ = some (.string ls[k].tx) ∧ W.cell? ⟨b2, o2 + k * 4 + 3, none⟩ = some (.slice al ls[k].ks.length cl)) (first | exact HX.out | exact HX2.out) ((go_at_call 19; refine HQ.out.mono ?_; rintro e w1 ⟨rfl, hb3⟩; have HX2 := hide (And.intro (((bcellN hb3).1 _ _ hl3).trans HX.out.1) (And.intro (((bcellN hb3).1 _ _ hl4).trans HX.out.2.1) (keep8N hb3 hl1 hl2 HX.out.2.2)))))
                all_goals
                  have c1 := hbd.trans (hb3.mono hsz)
                  clear hb3
                  go_wp2
                  go_roundw
                  case rel => exact ⟨k + 1, by omega, by go_num, by have := HT.out; simpa using this, c1⟩
                  case measure => simp [intOf]; omega
            · go_wp2
              go_ret
              refine ⟨ret_bool ?_, c0⟩
              rw [← ht, List.drop_of_length_le (by omega), List.drop_of_length_le (by have := HL.out; omega)]
              rfl
        · have hz := F5.out hlen
          subst hz
          have hle : ((ks.length : Int) != ls.length) = true := by simp; omega
          clear h1 h2 h3 F1 F2 F3 F4 F5 hlen
          go_enter Tryz.func19, Tryz.ntmps19
          go_wp2
          go_ret
          exact ⟨rfl, hb0⟩
      · have e3 := neStrN h3
        have hz := F3.out h3
        subst hz
        clear h1 h2 h3 F1 F2 F3 F4 F5
        go_enter Tryz.func19, Tryz.ntmps19
        go_wp2
        go_ret
        exact ⟨rfl, hb0⟩
    · have e2 := neStrN h2
      have hz := F2.out h2
      subst hz
      clear h1 h2 F1 F2 F3 F4 F5
      go_enter Tryz.func19, Tryz.ntmps19
      go_wp2
      go_ret
      exact ⟨rfl, hb0⟩
  · have e1 := neStrN h1
    have hz := F1.out h1
    subst hz
    clear h1 F1 F2 F3 F4 F5
    go_enter Tryz.func19, Tryz.ntmps19
    go_wp2
    go_ret
    exact ⟨rfl, hb0⟩

theorem specSameNode_all : ∀ K, SpS K := by
  intro K
  induction K with
  | zero => intro n m a b cap cap' B C w hn; exact absurd hn (Nat.not_lt_zero _)
  | succ K ih => exact specSameNode_step K ih
theorem specSameNode_any (n m : Nd) (a b : Option Addr) (cap cap' B C : Nat) (w : World) (h : Nds w B a n.ks) (h' : Nds w C b m.ks) (hB : B ≤ w.heap.size) (hC : C ≤ w.heap.size) (hs : n.short) (hs' : m.short) :
    Calls Tryz.prog 19 #[.agg #[.string n.ns, .string n.nm, .string n.tx, .slice a n.ks.length cap], .agg #[.string m.ns, .string m.nm, .string m.tx, .slice b m.ks.length cap']] w fun e w' => e = .returned (.bool (n.same m)) ∧ Below w.heap.size w w' :=
  specSameNode_all _ n m a b cap cap' B C w (Nat.lt_succ_self _) h h' hB hC hs hs'
end Go.Proofs.YtccehdlgpbeijaaGreatDoor
