/-
  What spec.l11Put does.
-/
import Derived.Test.YtifnolomekhmfaaGreatSpecCopyAll
import Derived.Test.YtifnolomekhmfaaGreatMathPutR
import Derived.Test.YtifnolomekhmfaaGreatSpecLess
import Derived.Deep.RegionHeld3
namespace Go.Proofs.YtifnolomekhmfaaGreat
open Go.RowKit M
set_option linter.unusedVariables false

theorem keep2U {W w1 : World} {p q : Addr} {v u : Value} (hb : Below W.heap.size W w1) (h : W.cell? p = some v ∧ W.cell? q = some u) : w1.cell? p = some v ∧ w1.cell? q = some u :=
  ⟨(hb.cell (p := p) (World.block_lt_of_cell? W _ h.1)).trans h.1, (hb.cell (p := q) (World.block_lt_of_cell? W _ h.2)).trans h.2⟩
theorem Below.drew' (D : Nat) (w : World) : Below D w w.drew := below_drewP (Below.refl D w)
/-- What is so in the course of a round, at world u: the row that grows, what was there, the box of what is put. -/
structure StU (w u : World) (r : Rs) (pa : Option Addr) (pc : Nat) (qa : Option Addr) (qc : Nat) (v : Value) (ts : List RsT) (lo : Nat) : Prop where
  g : GrowR u (w.heap.size + 1) v ts lo
  lo : w.heap.size + 1 ≤ lo
  cw : Below w.heap.size w u
  bx : u.cell? ⟨w.heap.size, 0, none⟩ = some (.slice pa r.pa.length pc) ∧ u.cell? ⟨w.heap.size, 1, none⟩ = some (.bool r.co) ∧ u.cell? ⟨w.heap.size, 2, none⟩ = some (.string r.bo) ∧ u.cell? ⟨w.heap.size, 3, none⟩ = some (.int .i64 r.ve) ∧ u.cell? ⟨w.heap.size, 4, none⟩ = some (.slice qa r.ps.length qc)
variable {w u u' : World} {r : Rs} {pa : Option Addr} {pc : Nat} {qa : Option Addr} {qc : Nat} {v v' : Value} {ts ts' : List RsT} {lo : Nat}
theorem StU.next (s : StU w u r pa pc qa qc v ts lo) (hb : Below u.heap.size u u') : StU w u' r pa pc qa qc v ts lo := by
  refine ⟨s.g.next hb, s.lo, s.cw.trans (hb.mono s.cw.size), ?_⟩
  have hl : w.heap.size < u.heap.size := World.block_lt_of_cell? u _ s.bx.1
  simp only [(bcellP hb).1 _ _ hl]
  exact s.bx
theorem StU.all (s : StU w u r pa pc qa qc v ts lo) (hb : ∀ D, Below D u u') : StU w u' r pa pc qa qc v ts lo := s.next (hb _)
theorem StU.grow (s : StU w u r pa pc qa qc v ts lo) (hg : GrowR u' (w.heap.size + 1) v' ts' u'.heap.size) (hb : Below (w.heap.size + 1) u u') : StU w u' r pa pc qa qc v' ts' u'.heap.size := by
  have hz := hb.size
  have hl : w.heap.size < u.heap.size := World.block_lt_of_cell? u _ s.bx.1
  refine ⟨hg, by omega, s.cw.trans (hb.mono (Nat.le_succ _)), ?_⟩
  have e : ∀ o, u'.cell? ⟨w.heap.size, o, none⟩ = u.cell? ⟨w.heap.size, o, none⟩ := fun o => hb.cell (p := ⟨w.heap.size, o, none⟩) (Nat.lt_succ_self _)
  simp only [e]
  exact s.bx

set_option maxRecDepth 100000 in
set_option maxHeartbeats 8000000 in
theorem specPutR_any (a : Option Addr) (rs : List Rs) (cap B : Nat) (w : World) (r : Rs) (pa : Option Addr) (pc : Nat) (qa : Option Addr) (qc : Nat) (h : Rss w B a rs) (hin : RsIn w B r pa pc qa qc) (hB : B ≤ w.heap.size) (hl : rs.length ≤ 1048576) (hs : ∀ r ∈ rs, r.pa.length ≤ 1048576 ∧ r.ps.length ≤ 1048576) (hr : r.pa.length ≤ 1048576 ∧ r.ps.length ≤ 1048576) :
    Calls Tryz.prog 71 #[.slice a rs.length cap, .agg #[.slice pa r.pa.length pc, .bool r.co, .string r.bo, .int .i64 r.ve, .slice qa r.ps.length qc]] w fun e w' => (∃ v ts, e = .returned v ∧ GrowR w' (w.heap.size + 1) v ts w'.heap.size ∧ ts.map (·.r) = putR r false rs) ∧ Below w.heap.size w w' := by
  have HS := hide hs
  have HLR := hide hr
  have HIN := hide hin
  clear hs hr hin
  go_enter Tryz.func71, Tryz.ntmps71
  go_wp2
  go_loopw [5, 6, 7] (fun v dv i wr => ∃ (k lo : Nat) (ts : List RsT) (d : Bool), k ≤ rs.length ∧ i = .int .i64 k ∧ dv = .bool d ∧ StU w wr r pa pc qa qc v ts lo ∧ ts.map (·.r) ++ putR r d (rs.drop k) = putR r false rs ∧ ts.length ≤ k + d.toNat) (fun _ _ i _ => rs.length - (intOf i).toNat)
  case atStart =>
    refine ⟨0, w.heap.size + 1 + 1, [], false, Nat.zero_le _, rfl, rfl, ⟨?_, by omega, ((Below.refl _ _).alloc (Nat.le_refl _) _).alloc (by simp) _, ?_⟩, by simp, by simp⟩
    · have := GrowR.made (w.alloc (Obj.cells #[.slice pa r.pa.length pc, .bool r.co, .string r.bo, .int .i64 r.ve, .slice qa r.ps.length qc] 62)) (w.heap.size + 1) (by simp)
      simpa using this
    · simp
  case round =>
    obtain ⟨k, lo, ts, d, hk, rfl, rfl, hst, heq, hfw⟩ := hrel
    have ST := hide hst
    have hd1 : d.toNat ≤ 1 := by cases d <;> decide
    have HFW := hide (show ts.length ≤ 1048577 by omega)
    clear hd1
    have HF2 := hide hfw
    clear hst hfw
    by_cases hlt : k < rs.length
    · obtain ⟨b1, o1, rfl, hb1, hcc⟩ := h (by omega)
      have hb1w : b1 < w.heap.size := by omega
      obtain ⟨pt, ct, qt, dt, ⟨hc0, hc1, hc2, hc3, hc4⟩, hit⟩ := hcc k hlt
      have HIT := hide hit
      have HLT := hide (HS.out _ (List.getElem_mem hlt))
      clear hcc hit
      rw [List.drop_eq_getElem_cons hlt, putR_cons] at heq
      have hi0 : (0 : Int) ≤ (k : Int) := by omega
      have hi1 : (k : Int) < (rs.length : Int) := by omega
      have hK6 : wr.drew.cell? ⟨b1, o1 + k * 5, none⟩ = some (.slice pt rs[k].pa.length ct) ∧ wr.drew.cell? ⟨w.heap.size, 0, none⟩ = some (.slice pa r.pa.length pc) := ⟨(ST.out.cw.cell (p := ⟨b1, o1 + k * 5, none⟩) hb1w).trans hc0, ST.out.bx.1⟩
      cases d
      · have HLS := hide (specLessPath_any pt pa rs[k].pa r.pa ct pc B B wr.drew (HIT.out.ph.below (below_drewP ST.out.cw) hB) (HIN.out.ph.below (below_drewP ST.out.cw) hB) (Nat.le_trans HIT.out.pl HIT.out.pm) (Nat.le_trans HIN.out.pl HIN.out.pm))
        obtain ⟨z1, hz1⟩ : ∃ z, lessL rs[k].pa r.pa = z := ⟨_, rfl⟩
        rw [hz1] at HLS heq
        clear hz1
        cases z1
        · have HE := hide heq
          clear heq
          go_wp2
          refine wp_region_held_drew (S := (fun W => W.cell? ⟨b1, o1 + k * 5, none⟩ = some (.slice pt rs[k].pa.length ct) ∧ W.cell? ⟨w.heap.size, 0, none⟩ = some (.slice pa r.pa.length pc))) (by kernel_rfl) hK6 (fun hHeld => ?_)
          simp only [List.size_toArray, List.length_cons, List.length_nil, Nat.reduceAdd, Array.replicate_succ, Array.replicate_zero, List.push_toArray, List.nil_append, List.cons_append]
          refine wpAnyH_take (i := 0) (v := ?_) rfl (by kernel_rfl) (by kernel_rfl) (by kernel_rfl) (fun _ _ _ h => h) (Or.inl ⟨by rfl, ?_⟩) (by assumption) ?_
          rotate_left
          · intro w hSw; (try dsimp only at hSw); go_simp; try with_reducible rfl
          simp only [Act.put, List.getElem_toArray, List.getElem_cons_zero, List.setIfInBounds_toArray, List.set_cons_zero]
          refine wpAnyH_take (i := 1) (v := ?_) rfl (by kernel_rfl) (by kernel_rfl) (by kernel_rfl) (fun _ _ _ h => h) (Or.inl ⟨by rfl, ?_⟩) (by assumption) ?_
          rotate_left
          · intro w hSw; (try dsimp only at hSw); go_simp; try with_reducible rfl
          simp only [Act.put, List.getElem_toArray, List.getElem_cons_succ, List.getElem_cons_zero, List.setIfInBounds_toArray, List.set_cons_succ, List.set_cons_zero]
          refine wpAnyH_take (i := 2) (v := .bool true) rfl (by kernel_rfl) (by kernel_rfl) (by kernel_rfl) (fun _ _ _ h => h) (Or.inl ⟨by rfl, ?_⟩) (by assumption) ?_
          · intro w hSw; (try dsimp only at hSw); go_simp
          simp only [Act.put, List.getElem_toArray, List.getElem_cons_succ, List.getElem_cons_zero, List.setIfInBounds_toArray, List.set_cons_succ, List.set_cons_zero]
          refine wpAnyH_take (i := 3) (v := ?_) rfl (by kernel_rfl) (by kernel_rfl) (by kernel_rfl) (fun _ _ _ h => h) (Or.inl ⟨by rfl, ?_⟩) (by assumption) ?_
          rotate_left
          · intro w hSw; (try dsimp only at hSw); go_simp; try with_reducible rfl
          simp only [Act.put, List.getElem_toArray, List.getElem_cons_succ, List.getElem_cons_zero, List.setIfInBounds_toArray, List.set_cons_succ, List.set_cons_zero]
          refine wpAnyH_take (i := 4) (v := ?_) rfl (by kernel_rfl) (by kernel_rfl) (by kernel_rfl) (fun _ _ _ h => h) (Or.inl ⟨by rfl, ?_⟩) (by assumption) ?_
          rotate_left
          · intro w hSw; (try dsimp only at hSw); go_simp; try with_reducible rfl
          simp only [Act.put, List.getElem_toArray, List.getElem_cons_succ, List.getElem_cons_zero, List.setIfInBounds_toArray, List.set_cons_succ, List.set_cons_zero]
          refine wpAnyH_take (i := 5) (v := ?_) rfl (by kernel_rfl) (by kernel_rfl) (by kernel_rfl) (fun _ _ _ h => h) (Or.inl ⟨by rfl, ?_⟩) (by assumption) ?_
          rotate_left
          · intro w hSw; (try dsimp only at hSw); go_simp; try with_reducible rfl
          simp only [Act.put, List.getElem_toArray, List.getElem_cons_succ, List.getElem_cons_zero, List.setIfInBounds_toArray, List.set_cons_succ, List.set_cons_zero]
          refine wpAnyH_take (i := 6) (v := ?_) rfl (by kernel_rfl) (by kernel_rfl) (by kernel_rfl) (fun _ _ _ h => h) (Or.inl ⟨by rfl, ?_⟩) (by assumption) ?_
          rotate_left
          · intro w hSw; (try dsimp only at hSw); go_simp; try with_reducible rfl
          simp only [Act.put, List.getElem_toArray, List.getElem_cons_succ, List.getElem_cons_zero, List.setIfInBounds_toArray, List.set_cons_succ, List.set_cons_zero]
          refine wpAnyH_take (i := 7) (v := ?_) rfl (by kernel_rfl) (by kernel_rfl) (by kernel_rfl) (fun _ _ _ h => h) (Or.inl ⟨by rfl, ?_⟩) (by assumption) ?_
          rotate_left
          · intro w hSw; (try dsimp only at hSw); go_simp; try with_reducible rfl
          simp only [Act.put, List.getElem_toArray, List.getElem_cons_succ, List.getElem_cons_zero, List.setIfInBounds_toArray, List.set_cons_succ, List.set_cons_zero]
          refine wpAnyH_take (i := 8) (v := ?_) rfl (by kernel_rfl) (by kernel_rfl) (by kernel_rfl) (fun _ _ _ h => h) (Or.inl ⟨by rfl, ?_⟩) (by assumption) ?_
          rotate_left
          · intro w hSw; (try dsimp only at hSw); go_simp; try with_reducible rfl
          simp only [Act.put, List.getElem_toArray, List.getElem_cons_succ, List.getElem_cons_zero, List.setIfInBounds_toArray, List.set_cons_succ, List.set_cons_zero]
          refine wpAnyH_take (i := 9) (v := ?_) rfl (by kernel_rfl) (by kernel_rfl) (by kernel_rfl) (fun _ _ _ h => h) (Or.inl ⟨by rfl, ?_⟩) (by assumption) ?_
          rotate_left
          · intro w hSw; (try dsimp only at hSw); go_simp; try with_reducible rfl
          simp only [Act.put, List.getElem_toArray, List.getElem_cons_succ, List.getElem_cons_zero, List.setIfInBounds_toArray, List.set_cons_succ, List.set_cons_zero]
          refine wpAnyH_ready (rs := [10]) (by kernel_rfl) (by simp) ?_
          refine AllReadyH.cons rfl (fun K hK => ?_) AllReadyH.nil
          go_simp
          refine (HLS.out).mono ?_
          rintro e w6 ⟨rfl, hbw6⟩
          have Kw6 := hide (keep2U (hbw6 _) hHeld)
          refine hK.out _ _ Kw6.out (fun hHeld2 => ?_)
          clear hK K hHeld
          have hHeld := hHeld2
          clear hHeld2
          simp only [List.setIfInBounds_toArray, List.set_cons_succ, List.set_cons_zero]
          refine wpAnyH_take (i := 11) (v := .bool true) rfl (by kernel_rfl) (by kernel_rfl) (by kernel_rfl) (fun _ _ _ h => h) (Or.inl ⟨by rfl, ?_⟩) (by assumption) ?_
          · intro w hSw; (try dsimp only at hSw); go_simp
          simp only [Act.put, List.getElem_toArray, List.getElem_cons_succ, List.getElem_cons_zero, List.setIfInBounds_toArray, List.set_cons_succ, List.set_cons_zero]
          refine wpAnyH_take (i := 12) (v := .bool true) rfl (by kernel_rfl) (by kernel_rfl) (by kernel_rfl) (fun _ _ _ h => h) (Or.inl ⟨by rfl, ?_⟩) (by assumption) ?_
          · intro w hSw; (try dsimp only at hSw); go_simp
          simp only [Act.put, List.getElem_toArray, List.getElem_cons_succ, List.getElem_cons_zero, List.setIfInBounds_toArray, List.set_cons_succ, List.set_cons_zero]
          refine wpAnyH_done (by kernel_rfl) ?_ _
          clear hHeld
          have HS6 := hide (ST.out.all (fun D => (Below.drew' D wr).trans (hbw6 D)))
          clear hbw6 Kw6 hK6 HLS ST
          obtain ⟨e0, e1, e2, e3, e4⟩ := HS6.out.bx
          have HCp := hide (specCopy_any r pa pc qa qc B w6 (HIN.out.below HS6.out.cw hB) (Nat.le_trans hB HS6.out.cw.size) HLR.out.1 HLR.out.2)
          go_wp2_with fail
          refine HCp.out.mono ?_
          rintro e wc ⟨⟨pp, cc, qq, dd, rfl, hpp, hpq, r3, q3, k1, k2, k3, k4⟩, b5⟩
          have bA := (Below.refl wc.heap.size wc).alloc (Nat.le_refl _) (Obj.cells #[.slice (some ⟨pp, 0, none⟩) (r).pa.length cc, .bool (r).co, .string (r).bo, .int .i64 (r).ve, .slice (some ⟨qq, 0, none⟩) (r).ps.length dd] 62)
          have HS4 := hide ((HS6.out.next b5).next bA)
          have HR := hide (r3.below bA)
          have HQ := hide (q3.below bA)
          have HKK := hide (And.intro k1 (And.intro k2 (And.intro k3 k4)))
          have hlop : lo ≤ pp := Nat.le_trans HS6.out.g.top hpp
          have hfew : (ts).length + 1 ≤ 1000000000 := by have := HFW.out; simp; omega
          clear r3 q3 b5 bA HCp k1 k2 k3 k4 e0 e1 e2 e3 e4
          go_wp2_with (at_builtin; refine wp_append_res rfl _ _ rfl (w.heap.size + 1) lo _ (ts) rfl HS4.out.g wc.heap.size ⟨r, pp, cc, qq, dd⟩ rfl ?_ hfew HS4.out.lo hlop hpq HR.out HQ.out HKK.out ?_)
          · exact ⟨by simp, by simp, by simp, by simp, by simp⟩
          · intro v1 wd hG' hB'
            have HS5 := hide (HS4.out.grow hG' hB')
            clear hG' hB' HS4 HR HQ HKK hpp hpq hlop hfew
            have HE2 := hide (show (ts ++ [(⟨r, pp, cc, qq, dd⟩ : RsT)]).map (·.r) ++ ((if sameL rs[k].pa r.pa = true then [] else [rs[k]]) ++ putR r true (List.drop (k + 1) rs)) = putR r false rs by rw [List.map_append]; simpa using HE.out)
            clear HE
            have HE := HE2
            clear HE2
            have HFX := HFW
            clear HFW
            have HFW := hide (show (ts ++ [(⟨r, pp, cc, qq, dd⟩ : RsT)]).length ≤ 1048578 by have := HFX.out; simp; omega)
            clear HFX
            obtain ⟨ts2, hts2⟩ : ∃ ts2, ts ++ [(⟨r, pp, cc, qq, dd⟩ : RsT)] = ts2 := ⟨_, rfl⟩
            rw [hts2] at HS5 HE HFW
            have HL2 := hide (show ts2.length ≤ k + 1 by rw [← hts2]; have := HF2.out; simp at this ⊢; omega)
            clear hts2
            have HS7 := HS5
            clear HS5
            have hK0 : wd.drew.cell? ⟨b1, o1 + k * 5, none⟩ = some (.slice pt rs[k].pa.length ct) ∧ wd.drew.cell? ⟨w.heap.size, 0, none⟩ = some (.slice pa r.pa.length pc) := ⟨(HS7.out.cw.cell (p := ⟨b1, o1 + k * 5, none⟩) hb1w).trans hc0, HS7.out.bx.1⟩
            have HSM := hide (specSamePath_any pt pa rs[k].pa r.pa ct pc B B wd.drew (HIT.out.ph.below (below_drewP HS7.out.cw) hB) (HIN.out.ph.below (below_drewP HS7.out.cw) hB) (Nat.le_trans HIT.out.pl HIT.out.pm) (Nat.le_trans HIN.out.pl HIN.out.pm))
            obtain ⟨z2, hz2⟩ : ∃ z, sameL rs[k].pa r.pa = z := ⟨_, rfl⟩
            rw [hz2] at HSM HE
            clear hz2
            cases z2
            · go_wp2
              refine wp_region_held_drew (S := (fun W => W.cell? ⟨b1, o1 + k * 5, none⟩ = some (.slice pt rs[k].pa.length ct) ∧ W.cell? ⟨w.heap.size, 0, none⟩ = some (.slice pa r.pa.length pc))) (by kernel_rfl) hK0 (fun hHeld => ?_)
              simp only [List.size_toArray, List.length_cons, List.length_nil, Nat.reduceAdd, Array.replicate_succ, Array.replicate_zero, List.push_toArray, List.nil_append, List.cons_append]
              refine wpAnyH_take (i := 0) (v := ?_) rfl (by kernel_rfl) (by kernel_rfl) (by kernel_rfl) (fun _ _ _ h => h) (Or.inl ⟨by rfl, ?_⟩) (by assumption) ?_
              rotate_left
              · intro w hSw; (try dsimp only at hSw); go_simp; try with_reducible rfl
              simp only [Act.put, List.getElem_toArray, List.getElem_cons_zero, List.setIfInBounds_toArray, List.set_cons_zero]
              refine wpAnyH_take (i := 1) (v := ?_) rfl (by kernel_rfl) (by kernel_rfl) (by kernel_rfl) (fun _ _ _ h => h) (Or.inl ⟨by rfl, ?_⟩) (by assumption) ?_
              rotate_left
              · intro w hSw; (try dsimp only at hSw); go_simp; try with_reducible rfl
              simp only [Act.put, List.getElem_toArray, List.getElem_cons_succ, List.getElem_cons_zero, List.setIfInBounds_toArray, List.set_cons_succ, List.set_cons_zero]
              refine wpAnyH_take (i := 2) (v := ?_) rfl (by kernel_rfl) (by kernel_rfl) (by kernel_rfl) (fun _ _ _ h => h) (Or.inl ⟨by rfl, ?_⟩) (by assumption) ?_
              rotate_left
              · intro w hSw; (try dsimp only at hSw); go_simp; try with_reducible rfl
              simp only [Act.put, List.getElem_toArray, List.getElem_cons_succ, List.getElem_cons_zero, List.setIfInBounds_toArray, List.set_cons_succ, List.set_cons_zero]
              refine wpAnyH_take (i := 3) (v := ?_) rfl (by kernel_rfl) (by kernel_rfl) (by kernel_rfl) (fun _ _ _ h => h) (Or.inl ⟨by rfl, ?_⟩) (by assumption) ?_
              rotate_left
              · intro w hSw; (try dsimp only at hSw); go_simp; try with_reducible rfl
              simp only [Act.put, List.getElem_toArray, List.getElem_cons_succ, List.getElem_cons_zero, List.setIfInBounds_toArray, List.set_cons_succ, List.set_cons_zero]
              refine wpAnyH_take (i := 4) (v := ?_) rfl (by kernel_rfl) (by kernel_rfl) (by kernel_rfl) (fun _ _ _ h => h) (Or.inl ⟨by rfl, ?_⟩) (by assumption) ?_
              rotate_left
              · intro w hSw; (try dsimp only at hSw); go_simp; try with_reducible rfl
              simp only [Act.put, List.getElem_toArray, List.getElem_cons_succ, List.getElem_cons_zero, List.setIfInBounds_toArray, List.set_cons_succ, List.set_cons_zero]
              refine wpAnyH_take (i := 5) (v := ?_) rfl (by kernel_rfl) (by kernel_rfl) (by kernel_rfl) (fun _ _ _ h => h) (Or.inl ⟨by rfl, ?_⟩) (by assumption) ?_
              rotate_left
              · intro w hSw; (try dsimp only at hSw); go_simp; try with_reducible rfl
              simp only [Act.put, List.getElem_toArray, List.getElem_cons_succ, List.getElem_cons_zero, List.setIfInBounds_toArray, List.set_cons_succ, List.set_cons_zero]
              refine wpAnyH_take (i := 6) (v := ?_) rfl (by kernel_rfl) (by kernel_rfl) (by kernel_rfl) (fun _ _ _ h => h) (Or.inl ⟨by rfl, ?_⟩) (by assumption) ?_
              rotate_left
              · intro w hSw; (try dsimp only at hSw); go_simp; try with_reducible rfl
              simp only [Act.put, List.getElem_toArray, List.getElem_cons_succ, List.getElem_cons_zero, List.setIfInBounds_toArray, List.set_cons_succ, List.set_cons_zero]
              refine wpAnyH_ready (rs := [7]) (by kernel_rfl) (by simp) ?_
              refine AllReadyH.cons rfl (fun K hK => ?_) AllReadyH.nil
              go_simp
              refine (HSM.out).mono ?_
              rintro e w9 ⟨rfl, hbw9⟩
              have Kw9 := hide (keep2U (hbw9 _) hHeld)
              refine hK.out _ _ Kw9.out (fun hHeld2 => ?_)
              clear hK K hHeld
              have hHeld := hHeld2
              clear hHeld2
              simp only [List.setIfInBounds_toArray, List.set_cons_succ, List.set_cons_zero]
              refine wpAnyH_take (i := 8) (v := .bool true) rfl (by kernel_rfl) (by kernel_rfl) (by kernel_rfl) (fun _ _ _ h => h) (Or.inl ⟨by rfl, ?_⟩) (by assumption) ?_
              · intro w hSw; (try dsimp only at hSw); go_simp
              simp only [Act.put, List.getElem_toArray, List.getElem_cons_succ, List.getElem_cons_zero, List.setIfInBounds_toArray, List.set_cons_succ, List.set_cons_zero]
              refine wpAnyH_done (by kernel_rfl) ?_ _
              clear hHeld
              have HS9 := hide (HS7.out.all (fun D => (Below.drew' D wd).trans (hbw9 D)))
              clear hbw9 Kw9 hK0 HSM
              have e0 := (HS9.out.cw.cell (p := ⟨b1, o1 + k * 5, none⟩) hb1w).trans hc0
              have e1 := (HS9.out.cw.cell (p := ⟨b1, o1 + k * 5 + 1, none⟩) hb1w).trans hc1
              have e2 := (HS9.out.cw.cell (p := ⟨b1, o1 + k * 5 + 2, none⟩) hb1w).trans hc2
              have e3 := (HS9.out.cw.cell (p := ⟨b1, o1 + k * 5 + 3, none⟩) hb1w).trans hc3
              have e4 := (HS9.out.cw.cell (p := ⟨b1, o1 + k * 5 + 4, none⟩) hb1w).trans hc4
              have HCp := hide (specCopy_any rs[k] pt ct qt dt B w9 (HIT.out.below HS9.out.cw hB) (Nat.le_trans hB HS9.out.cw.size) HLT.out.1 HLT.out.2)
              go_wp2_with fail
              refine HCp.out.mono ?_
              rintro e wc ⟨⟨pp, cc, qq, dd, rfl, hpp, hpq, r3, q3, k1, k2, k3, k4⟩, b5⟩
              have bA := (Below.refl wc.heap.size wc).alloc (Nat.le_refl _) (Obj.cells #[.slice (some ⟨pp, 0, none⟩) (rs[k]).pa.length cc, .bool (rs[k]).co, .string (rs[k]).bo, .int .i64 (rs[k]).ve, .slice (some ⟨qq, 0, none⟩) (rs[k]).ps.length dd] 62)
              have HS4 := hide ((HS9.out.next b5).next bA)
              have HR := hide (r3.below bA)
              have HQ := hide (q3.below bA)
              have HKK := hide (And.intro k1 (And.intro k2 (And.intro k3 k4)))
              have hlop : wd.heap.size ≤ pp := Nat.le_trans HS9.out.g.top hpp
              have hfew : (ts2).length + 1 ≤ 1000000000 := by have := HFW.out; simp; omega
              clear r3 q3 b5 bA HCp k1 k2 k3 k4 e0 e1 e2 e3 e4
              go_wp2_with (at_builtin; refine wp_append_res rfl _ _ rfl (w.heap.size + 1) wd.heap.size _ (ts2) rfl HS4.out.g wc.heap.size ⟨rs[k], pp, cc, qq, dd⟩ rfl ?_ hfew HS4.out.lo hlop hpq HR.out HQ.out HKK.out ?_)
              · exact ⟨by simp, by simp, by simp, by simp, by simp⟩
              · intro v1 wd hG' hB'
                have HS5 := hide (HS4.out.grow hG' hB')
                clear hG' hB' HS4 HR HQ HKK hpp hpq hlop hfew
                go_wp2
                go_roundw
                case rel => exact ⟨k + 1, _, _, true, by omega, by go_num, rfl, HS5.out, by rw [List.map_append]; simpa using HE.out, (by have := HL2.out; simp; omega)⟩
                case measure => simp [intOf]; omega
            · go_wp2
              refine wp_region_held_drew (S := (fun W => W.cell? ⟨b1, o1 + k * 5, none⟩ = some (.slice pt rs[k].pa.length ct) ∧ W.cell? ⟨w.heap.size, 0, none⟩ = some (.slice pa r.pa.length pc))) (by kernel_rfl) hK0 (fun hHeld => ?_)
              simp only [List.size_toArray, List.length_cons, List.length_nil, Nat.reduceAdd, Array.replicate_succ, Array.replicate_zero, List.push_toArray, List.nil_append, List.cons_append]
              refine wpAnyH_take (i := 0) (v := ?_) rfl (by kernel_rfl) (by kernel_rfl) (by kernel_rfl) (fun _ _ _ h => h) (Or.inl ⟨by rfl, ?_⟩) (by assumption) ?_
              rotate_left
              · intro w hSw; (try dsimp only at hSw); go_simp; try with_reducible rfl
              simp only [Act.put, List.getElem_toArray, List.getElem_cons_zero, List.setIfInBounds_toArray, List.set_cons_zero]
              refine wpAnyH_take (i := 1) (v := ?_) rfl (by kernel_rfl) (by kernel_rfl) (by kernel_rfl) (fun _ _ _ h => h) (Or.inl ⟨by rfl, ?_⟩) (by assumption) ?_
              rotate_left
              · intro w hSw; (try dsimp only at hSw); go_simp; try with_reducible rfl
              simp only [Act.put, List.getElem_toArray, List.getElem_cons_succ, List.getElem_cons_zero, List.setIfInBounds_toArray, List.set_cons_succ, List.set_cons_zero]
              refine wpAnyH_take (i := 2) (v := ?_) rfl (by kernel_rfl) (by kernel_rfl) (by kernel_rfl) (fun _ _ _ h => h) (Or.inl ⟨by rfl, ?_⟩) (by assumption) ?_
              rotate_left
              · intro w hSw; (try dsimp only at hSw); go_simp; try with_reducible rfl
              simp only [Act.put, List.getElem_toArray, List.getElem_cons_succ, List.getElem_cons_zero, List.setIfInBounds_toArray, List.set_cons_succ, List.set_cons_zero]
              refine wpAnyH_take (i := 3) (v := ?_) rfl (by kernel_rfl) (by kernel_rfl) (by kernel_rfl) (fun _ _ _ h => h) (Or.inl ⟨by rfl, ?_⟩) (by assumption) ?_
              rotate_left
              · intro w hSw; (try dsimp only at hSw); go_simp; try with_reducible rfl
              simp only [Act.put, List.getElem_toArray, List.getElem_cons_succ, List.getElem_cons_zero, List.setIfInBounds_toArray, List.set_cons_succ, List.set_cons_zero]
              refine wpAnyH_take (i := 4) (v := ?_) rfl (by kernel_rfl) (by kernel_rfl) (by kernel_rfl) (fun _ _ _ h => h) (Or.inl ⟨by rfl, ?_⟩) (by assumption) ?_
              rotate_left
              · intro w hSw; (try dsimp only at hSw); go_simp; try with_reducible rfl
              simp only [Act.put, List.getElem_toArray, List.getElem_cons_succ, List.getElem_cons_zero, List.setIfInBounds_toArray, List.set_cons_succ, List.set_cons_zero]
              refine wpAnyH_take (i := 5) (v := ?_) rfl (by kernel_rfl) (by kernel_rfl) (by kernel_rfl) (fun _ _ _ h => h) (Or.inl ⟨by rfl, ?_⟩) (by assumption) ?_
              rotate_left
              · intro w hSw; (try dsimp only at hSw); go_simp; try with_reducible rfl
              simp only [Act.put, List.getElem_toArray, List.getElem_cons_succ, List.getElem_cons_zero, List.setIfInBounds_toArray, List.set_cons_succ, List.set_cons_zero]
              refine wpAnyH_take (i := 6) (v := ?_) rfl (by kernel_rfl) (by kernel_rfl) (by kernel_rfl) (fun _ _ _ h => h) (Or.inl ⟨by rfl, ?_⟩) (by assumption) ?_
              rotate_left
              · intro w hSw; (try dsimp only at hSw); go_simp; try with_reducible rfl
              simp only [Act.put, List.getElem_toArray, List.getElem_cons_succ, List.getElem_cons_zero, List.setIfInBounds_toArray, List.set_cons_succ, List.set_cons_zero]
              refine wpAnyH_ready (rs := [7]) (by kernel_rfl) (by simp) ?_
              refine AllReadyH.cons rfl (fun K hK => ?_) AllReadyH.nil
              go_simp
              refine (HSM.out).mono ?_
              rintro e w9 ⟨rfl, hbw9⟩
              have Kw9 := hide (keep2U (hbw9 _) hHeld)
              refine hK.out _ _ Kw9.out (fun hHeld2 => ?_)
              clear hK K hHeld
              have hHeld := hHeld2
              clear hHeld2
              simp only [List.setIfInBounds_toArray, List.set_cons_succ, List.set_cons_zero]
              refine wpAnyH_take (i := 8) (v := .bool false) rfl (by kernel_rfl) (by kernel_rfl) (by kernel_rfl) (fun _ _ _ h => h) (Or.inl ⟨by rfl, ?_⟩) (by assumption) ?_
              · intro w hSw; (try dsimp only at hSw); go_simp
              simp only [Act.put, List.getElem_toArray, List.getElem_cons_succ, List.getElem_cons_zero, List.setIfInBounds_toArray, List.set_cons_succ, List.set_cons_zero]
              refine wpAnyH_done (by kernel_rfl) ?_ _
              clear hHeld
              have HS9 := hide (HS7.out.all (fun D => (Below.drew' D wd).trans (hbw9 D)))
              clear hbw9 Kw9 hK0 HSM
              go_wp2
              go_roundw
              case rel => exact ⟨k + 1, _, _, true, by omega, by go_num, rfl, HS9.out, by simpa using HE.out, (by have := HL2.out; simp; omega)⟩
              case measure => simp [intOf]; omega
        · have HE := hide heq
          clear heq
          go_wp2
          refine wp_region_held_drew (S := (fun W => W.cell? ⟨b1, o1 + k * 5, none⟩ = some (.slice pt rs[k].pa.length ct) ∧ W.cell? ⟨w.heap.size, 0, none⟩ = some (.slice pa r.pa.length pc))) (by kernel_rfl) hK6 (fun hHeld => ?_)
          simp only [List.size_toArray, List.length_cons, List.length_nil, Nat.reduceAdd, Array.replicate_succ, Array.replicate_zero, List.push_toArray, List.nil_append, List.cons_append]
          refine wpAnyH_take (i := 0) (v := ?_) rfl (by kernel_rfl) (by kernel_rfl) (by kernel_rfl) (fun _ _ _ h => h) (Or.inl ⟨by rfl, ?_⟩) (by assumption) ?_
          rotate_left
          · intro w hSw; (try dsimp only at hSw); go_simp; try with_reducible rfl
          simp only [Act.put, List.getElem_toArray, List.getElem_cons_zero, List.setIfInBounds_toArray, List.set_cons_zero]
          refine wpAnyH_take (i := 1) (v := ?_) rfl (by kernel_rfl) (by kernel_rfl) (by kernel_rfl) (fun _ _ _ h => h) (Or.inl ⟨by rfl, ?_⟩) (by assumption) ?_
          rotate_left
          · intro w hSw; (try dsimp only at hSw); go_simp; try with_reducible rfl
          simp only [Act.put, List.getElem_toArray, List.getElem_cons_succ, List.getElem_cons_zero, List.setIfInBounds_toArray, List.set_cons_succ, List.set_cons_zero]
          refine wpAnyH_take (i := 2) (v := .bool true) rfl (by kernel_rfl) (by kernel_rfl) (by kernel_rfl) (fun _ _ _ h => h) (Or.inl ⟨by rfl, ?_⟩) (by assumption) ?_
          · intro w hSw; (try dsimp only at hSw); go_simp
          simp only [Act.put, List.getElem_toArray, List.getElem_cons_succ, List.getElem_cons_zero, List.setIfInBounds_toArray, List.set_cons_succ, List.set_cons_zero]
          refine wpAnyH_take (i := 3) (v := ?_) rfl (by kernel_rfl) (by kernel_rfl) (by kernel_rfl) (fun _ _ _ h => h) (Or.inl ⟨by rfl, ?_⟩) (by assumption) ?_
          rotate_left
          · intro w hSw; (try dsimp only at hSw); go_simp; try with_reducible rfl
          simp only [Act.put, List.getElem_toArray, List.getElem_cons_succ, List.getElem_cons_zero, List.setIfInBounds_toArray, List.set_cons_succ, List.set_cons_zero]
          refine wpAnyH_take (i := 4) (v := ?_) rfl (by kernel_rfl) (by kernel_rfl) (by kernel_rfl) (fun _ _ _ h => h) (Or.inl ⟨by rfl, ?_⟩) (by assumption) ?_
          rotate_left
          · intro w hSw; (try dsimp only at hSw); go_simp; try with_reducible rfl
          simp only [Act.put, List.getElem_toArray, List.getElem_cons_succ, List.getElem_cons_zero, List.setIfInBounds_toArray, List.set_cons_succ, List.set_cons_zero]
          refine wpAnyH_take (i := 5) (v := ?_) rfl (by kernel_rfl) (by kernel_rfl) (by kernel_rfl) (fun _ _ _ h => h) (Or.inl ⟨by rfl, ?_⟩) (by assumption) ?_
          rotate_left
          · intro w hSw; (try dsimp only at hSw); go_simp; try with_reducible rfl
          simp only [Act.put, List.getElem_toArray, List.getElem_cons_succ, List.getElem_cons_zero, List.setIfInBounds_toArray, List.set_cons_succ, List.set_cons_zero]
          refine wpAnyH_take (i := 6) (v := ?_) rfl (by kernel_rfl) (by kernel_rfl) (by kernel_rfl) (fun _ _ _ h => h) (Or.inl ⟨by rfl, ?_⟩) (by assumption) ?_
          rotate_left
          · intro w hSw; (try dsimp only at hSw); go_simp; try with_reducible rfl
          simp only [Act.put, List.getElem_toArray, List.getElem_cons_succ, List.getElem_cons_zero, List.setIfInBounds_toArray, List.set_cons_succ, List.set_cons_zero]
          refine wpAnyH_take (i := 7) (v := ?_) rfl (by kernel_rfl) (by kernel_rfl) (by kernel_rfl) (fun _ _ _ h => h) (Or.inl ⟨by rfl, ?_⟩) (by assumption) ?_
          rotate_left
          · intro w hSw; (try dsimp only at hSw); go_simp; try with_reducible rfl
          simp only [Act.put, List.getElem_toArray, List.getElem_cons_succ, List.getElem_cons_zero, List.setIfInBounds_toArray, List.set_cons_succ, List.set_cons_zero]
          refine wpAnyH_take (i := 8) (v := ?_) rfl (by kernel_rfl) (by kernel_rfl) (by kernel_rfl) (fun _ _ _ h => h) (Or.inl ⟨by rfl, ?_⟩) (by assumption) ?_
          rotate_left
          · intro w hSw; (try dsimp only at hSw); go_simp; try with_reducible rfl
          simp only [Act.put, List.getElem_toArray, List.getElem_cons_succ, List.getElem_cons_zero, List.setIfInBounds_toArray, List.set_cons_succ, List.set_cons_zero]
          refine wpAnyH_take (i := 9) (v := ?_) rfl (by kernel_rfl) (by kernel_rfl) (by kernel_rfl) (fun _ _ _ h => h) (Or.inl ⟨by rfl, ?_⟩) (by assumption) ?_
          rotate_left
          · intro w hSw; (try dsimp only at hSw); go_simp; try with_reducible rfl
          simp only [Act.put, List.getElem_toArray, List.getElem_cons_succ, List.getElem_cons_zero, List.setIfInBounds_toArray, List.set_cons_succ, List.set_cons_zero]
          refine wpAnyH_ready (rs := [10]) (by kernel_rfl) (by simp) ?_
          refine AllReadyH.cons rfl (fun K hK => ?_) AllReadyH.nil
          go_simp
          refine (HLS.out).mono ?_
          rintro e w6 ⟨rfl, hbw6⟩
          have Kw6 := hide (keep2U (hbw6 _) hHeld)
          refine hK.out _ _ Kw6.out (fun hHeld2 => ?_)
          clear hK K hHeld
          have hHeld := hHeld2
          clear hHeld2
          simp only [List.setIfInBounds_toArray, List.set_cons_succ, List.set_cons_zero]
          refine wpAnyH_take (i := 11) (v := .bool false) rfl (by kernel_rfl) (by kernel_rfl) (by kernel_rfl) (fun _ _ _ h => h) (Or.inl ⟨by rfl, ?_⟩) (by assumption) ?_
          · intro w hSw; (try dsimp only at hSw); go_simp
          simp only [Act.put, List.getElem_toArray, List.getElem_cons_succ, List.getElem_cons_zero, List.setIfInBounds_toArray, List.set_cons_succ, List.set_cons_zero]
          refine wpAnyH_take (i := 12) (v := .bool false) rfl (by kernel_rfl) (by kernel_rfl) (by kernel_rfl) (fun _ _ _ h => h) (Or.inl ⟨by rfl, ?_⟩) (by assumption) ?_
          · intro w hSw; (try dsimp only at hSw); go_simp
          simp only [Act.put, List.getElem_toArray, List.getElem_cons_succ, List.getElem_cons_zero, List.setIfInBounds_toArray, List.set_cons_succ, List.set_cons_zero]
          refine wpAnyH_done (by kernel_rfl) ?_ _
          clear hHeld
          have HS6 := hide (ST.out.all (fun D => (Below.drew' D wr).trans (hbw6 D)))
          clear hbw6 Kw6 hK6 HLS ST
          have HE2 := hide (show ts.map (·.r) ++ ((if sameL rs[k].pa r.pa = true then [] else [rs[k]]) ++ putR r false (List.drop (k + 1) rs)) = putR r false rs by simpa using HE.out)
          clear HE
          have HE := HE2
          clear HE2
          go_wp2_with fail
          have hK0 : w6.drew.cell? ⟨b1, o1 + k * 5, none⟩ = some (.slice pt rs[k].pa.length ct) ∧ w6.drew.cell? ⟨w.heap.size, 0, none⟩ = some (.slice pa r.pa.length pc) := ⟨(HS6.out.cw.cell (p := ⟨b1, o1 + k * 5, none⟩) hb1w).trans hc0, HS6.out.bx.1⟩
          have HSM := hide (specSamePath_any pt pa rs[k].pa r.pa ct pc B B w6.drew (HIT.out.ph.below (below_drewP HS6.out.cw) hB) (HIN.out.ph.below (below_drewP HS6.out.cw) hB) (Nat.le_trans HIT.out.pl HIT.out.pm) (Nat.le_trans HIN.out.pl HIN.out.pm))
          obtain ⟨z2, hz2⟩ : ∃ z, sameL rs[k].pa r.pa = z := ⟨_, rfl⟩
          rw [hz2] at HSM HE
          clear hz2
          cases z2
          · go_wp2
            refine wp_region_held_drew (S := (fun W => W.cell? ⟨b1, o1 + k * 5, none⟩ = some (.slice pt rs[k].pa.length ct) ∧ W.cell? ⟨w.heap.size, 0, none⟩ = some (.slice pa r.pa.length pc))) (by kernel_rfl) hK0 (fun hHeld => ?_)
            simp only [List.size_toArray, List.length_cons, List.length_nil, Nat.reduceAdd, Array.replicate_succ, Array.replicate_zero, List.push_toArray, List.nil_append, List.cons_append]
            refine wpAnyH_take (i := 0) (v := ?_) rfl (by kernel_rfl) (by kernel_rfl) (by kernel_rfl) (fun _ _ _ h => h) (Or.inl ⟨by rfl, ?_⟩) (by assumption) ?_
            rotate_left
            · intro w hSw; (try dsimp only at hSw); go_simp; try with_reducible rfl
            simp only [Act.put, List.getElem_toArray, List.getElem_cons_zero, List.setIfInBounds_toArray, List.set_cons_zero]
            refine wpAnyH_take (i := 1) (v := ?_) rfl (by kernel_rfl) (by kernel_rfl) (by kernel_rfl) (fun _ _ _ h => h) (Or.inl ⟨by rfl, ?_⟩) (by assumption) ?_
            rotate_left
            · intro w hSw; (try dsimp only at hSw); go_simp; try with_reducible rfl
            simp only [Act.put, List.getElem_toArray, List.getElem_cons_succ, List.getElem_cons_zero, List.setIfInBounds_toArray, List.set_cons_succ, List.set_cons_zero]
            refine wpAnyH_take (i := 2) (v := ?_) rfl (by kernel_rfl) (by kernel_rfl) (by kernel_rfl) (fun _ _ _ h => h) (Or.inl ⟨by rfl, ?_⟩) (by assumption) ?_
            rotate_left
            · intro w hSw; (try dsimp only at hSw); go_simp; try with_reducible rfl
            simp only [Act.put, List.getElem_toArray, List.getElem_cons_succ, List.getElem_cons_zero, List.setIfInBounds_toArray, List.set_cons_succ, List.set_cons_zero]
            refine wpAnyH_take (i := 3) (v := ?_) rfl (by kernel_rfl) (by kernel_rfl) (by kernel_rfl) (fun _ _ _ h => h) (Or.inl ⟨by rfl, ?_⟩) (by assumption) ?_
            rotate_left
            · intro w hSw; (try dsimp only at hSw); go_simp; try with_reducible rfl
            simp only [Act.put, List.getElem_toArray, List.getElem_cons_succ, List.getElem_cons_zero, List.setIfInBounds_toArray, List.set_cons_succ, List.set_cons_zero]
            refine wpAnyH_take (i := 4) (v := ?_) rfl (by kernel_rfl) (by kernel_rfl) (by kernel_rfl) (fun _ _ _ h => h) (Or.inl ⟨by rfl, ?_⟩) (by assumption) ?_
            rotate_left
            · intro w hSw; (try dsimp only at hSw); go_simp; try with_reducible rfl
            simp only [Act.put, List.getElem_toArray, List.getElem_cons_succ, List.getElem_cons_zero, List.setIfInBounds_toArray, List.set_cons_succ, List.set_cons_zero]
            refine wpAnyH_take (i := 5) (v := ?_) rfl (by kernel_rfl) (by kernel_rfl) (by kernel_rfl) (fun _ _ _ h => h) (Or.inl ⟨by rfl, ?_⟩) (by assumption) ?_
            rotate_left
            · intro w hSw; (try dsimp only at hSw); go_simp; try with_reducible rfl
            simp only [Act.put, List.getElem_toArray, List.getElem_cons_succ, List.getElem_cons_zero, List.setIfInBounds_toArray, List.set_cons_succ, List.set_cons_zero]
            refine wpAnyH_take (i := 6) (v := ?_) rfl (by kernel_rfl) (by kernel_rfl) (by kernel_rfl) (fun _ _ _ h => h) (Or.inl ⟨by rfl, ?_⟩) (by assumption) ?_
            rotate_left
            · intro w hSw; (try dsimp only at hSw); go_simp; try with_reducible rfl
            simp only [Act.put, List.getElem_toArray, List.getElem_cons_succ, List.getElem_cons_zero, List.setIfInBounds_toArray, List.set_cons_succ, List.set_cons_zero]
            refine wpAnyH_ready (rs := [7]) (by kernel_rfl) (by simp) ?_
            refine AllReadyH.cons rfl (fun K hK => ?_) AllReadyH.nil
            go_simp
            refine (HSM.out).mono ?_
            rintro e w9 ⟨rfl, hbw9⟩
            have Kw9 := hide (keep2U (hbw9 _) hHeld)
            refine hK.out _ _ Kw9.out (fun hHeld2 => ?_)
            clear hK K hHeld
            have hHeld := hHeld2
            clear hHeld2
            simp only [List.setIfInBounds_toArray, List.set_cons_succ, List.set_cons_zero]
            refine wpAnyH_take (i := 8) (v := .bool true) rfl (by kernel_rfl) (by kernel_rfl) (by kernel_rfl) (fun _ _ _ h => h) (Or.inl ⟨by rfl, ?_⟩) (by assumption) ?_
            · intro w hSw; (try dsimp only at hSw); go_simp
            simp only [Act.put, List.getElem_toArray, List.getElem_cons_succ, List.getElem_cons_zero, List.setIfInBounds_toArray, List.set_cons_succ, List.set_cons_zero]
            refine wpAnyH_done (by kernel_rfl) ?_ _
            clear hHeld
            have HS9 := hide (HS6.out.all (fun D => (Below.drew' D w6).trans (hbw9 D)))
            clear hbw9 Kw9 hK0 HSM
            have e0 := (HS9.out.cw.cell (p := ⟨b1, o1 + k * 5, none⟩) hb1w).trans hc0
            have e1 := (HS9.out.cw.cell (p := ⟨b1, o1 + k * 5 + 1, none⟩) hb1w).trans hc1
            have e2 := (HS9.out.cw.cell (p := ⟨b1, o1 + k * 5 + 2, none⟩) hb1w).trans hc2
            have e3 := (HS9.out.cw.cell (p := ⟨b1, o1 + k * 5 + 3, none⟩) hb1w).trans hc3
            have e4 := (HS9.out.cw.cell (p := ⟨b1, o1 + k * 5 + 4, none⟩) hb1w).trans hc4
            have HCp := hide (specCopy_any rs[k] pt ct qt dt B w9 (HIT.out.below HS9.out.cw hB) (Nat.le_trans hB HS9.out.cw.size) HLT.out.1 HLT.out.2)
            go_wp2_with fail
            refine HCp.out.mono ?_
            rintro e wc ⟨⟨pp, cc, qq, dd, rfl, hpp, hpq, r3, q3, k1, k2, k3, k4⟩, b5⟩
            have bA := (Below.refl wc.heap.size wc).alloc (Nat.le_refl _) (Obj.cells #[.slice (some ⟨pp, 0, none⟩) (rs[k]).pa.length cc, .bool (rs[k]).co, .string (rs[k]).bo, .int .i64 (rs[k]).ve, .slice (some ⟨qq, 0, none⟩) (rs[k]).ps.length dd] 62)
            have HS4 := hide ((HS9.out.next b5).next bA)
            have HR := hide (r3.below bA)
            have HQ := hide (q3.below bA)
            have HKK := hide (And.intro k1 (And.intro k2 (And.intro k3 k4)))
            have hlop : lo ≤ pp := Nat.le_trans HS9.out.g.top hpp
            have hfew : (ts).length + 1 ≤ 1000000000 := by have := HFW.out; simp; omega
            clear r3 q3 b5 bA HCp k1 k2 k3 k4 e0 e1 e2 e3 e4
            go_wp2_with (at_builtin; refine wp_append_res rfl _ _ rfl (w.heap.size + 1) lo _ (ts) rfl HS4.out.g wc.heap.size ⟨rs[k], pp, cc, qq, dd⟩ rfl ?_ hfew HS4.out.lo hlop hpq HR.out HQ.out HKK.out ?_)
            · exact ⟨by simp, by simp, by simp, by simp, by simp⟩
            · intro v1 wd hG' hB'
              have HS5 := hide (HS4.out.grow hG' hB')
              clear hG' hB' HS4 HR HQ HKK hpp hpq hlop hfew
              go_wp2
              go_roundw
              case rel => exact ⟨k + 1, _, _, false, by omega, by go_num, rfl, HS5.out, by rw [List.map_append]; simpa using HE.out, (by have := HF2.out; simp at this ⊢; omega)⟩
              case measure => simp [intOf]; omega
          · go_wp2
            refine wp_region_held_drew (S := (fun W => W.cell? ⟨b1, o1 + k * 5, none⟩ = some (.slice pt rs[k].pa.length ct) ∧ W.cell? ⟨w.heap.size, 0, none⟩ = some (.slice pa r.pa.length pc))) (by kernel_rfl) hK0 (fun hHeld => ?_)
            simp only [List.size_toArray, List.length_cons, List.length_nil, Nat.reduceAdd, Array.replicate_succ, Array.replicate_zero, List.push_toArray, List.nil_append, List.cons_append]
            refine wpAnyH_take (i := 0) (v := ?_) rfl (by kernel_rfl) (by kernel_rfl) (by kernel_rfl) (fun _ _ _ h => h) (Or.inl ⟨by rfl, ?_⟩) (by assumption) ?_
            rotate_left
            · intro w hSw; (try dsimp only at hSw); go_simp; try with_reducible rfl
            simp only [Act.put, List.getElem_toArray, List.getElem_cons_zero, List.setIfInBounds_toArray, List.set_cons_zero]
            refine wpAnyH_take (i := 1) (v := ?_) rfl (by kernel_rfl) (by kernel_rfl) (by kernel_rfl) (fun _ _ _ h => h) (Or.inl ⟨by rfl, ?_⟩) (by assumption) ?_
            rotate_left
            · intro w hSw; (try dsimp only at hSw); go_simp; try with_reducible rfl
            simp only [Act.put, List.getElem_toArray, List.getElem_cons_succ, List.getElem_cons_zero, List.setIfInBounds_toArray, List.set_cons_succ, List.set_cons_zero]
            refine wpAnyH_take (i := 2) (v := ?_) rfl (by kernel_rfl) (by kernel_rfl) (by kernel_rfl) (fun _ _ _ h => h) (Or.inl ⟨by rfl, ?_⟩) (by assumption) ?_
            rotate_left
            · intro w hSw; (try dsimp only at hSw); go_simp; try with_reducible rfl
            simp only [Act.put, List.getElem_toArray, List.getElem_cons_succ, List.getElem_cons_zero, List.setIfInBounds_toArray, List.set_cons_succ, List.set_cons_zero]
            refine wpAnyH_take (i := 3) (v := ?_) rfl (by kernel_rfl) (by kernel_rfl) (by kernel_rfl) (fun _ _ _ h => h) (Or.inl ⟨by rfl, ?_⟩) (by assumption) ?_
            rotate_left
            · intro w hSw; (try dsimp only at hSw); go_simp; try with_reducible rfl
            simp only [Act.put, List.getElem_toArray, List.getElem_cons_succ, List.getElem_cons_zero, List.setIfInBounds_toArray, List.set_cons_succ, List.set_cons_zero]
            refine wpAnyH_take (i := 4) (v := ?_) rfl (by kernel_rfl) (by kernel_rfl) (by kernel_rfl) (fun _ _ _ h => h) (Or.inl ⟨by rfl, ?_⟩) (by assumption) ?_
            rotate_left
            · intro w hSw; (try dsimp only at hSw); go_simp; try with_reducible rfl
            simp only [Act.put, List.getElem_toArray, List.getElem_cons_succ, List.getElem_cons_zero, List.setIfInBounds_toArray, List.set_cons_succ, List.set_cons_zero]
            refine wpAnyH_take (i := 5) (v := ?_) rfl (by kernel_rfl) (by kernel_rfl) (by kernel_rfl) (fun _ _ _ h => h) (Or.inl ⟨by rfl, ?_⟩) (by assumption) ?_
            rotate_left
            · intro w hSw; (try dsimp only at hSw); go_simp; try with_reducible rfl
            simp only [Act.put, List.getElem_toArray, List.getElem_cons_succ, List.getElem_cons_zero, List.setIfInBounds_toArray, List.set_cons_succ, List.set_cons_zero]
            refine wpAnyH_take (i := 6) (v := ?_) rfl (by kernel_rfl) (by kernel_rfl) (by kernel_rfl) (fun _ _ _ h => h) (Or.inl ⟨by rfl, ?_⟩) (by assumption) ?_
            rotate_left
            · intro w hSw; (try dsimp only at hSw); go_simp; try with_reducible rfl
            simp only [Act.put, List.getElem_toArray, List.getElem_cons_succ, List.getElem_cons_zero, List.setIfInBounds_toArray, List.set_cons_succ, List.set_cons_zero]
            refine wpAnyH_ready (rs := [7]) (by kernel_rfl) (by simp) ?_
            refine AllReadyH.cons rfl (fun K hK => ?_) AllReadyH.nil
            go_simp
            refine (HSM.out).mono ?_
            rintro e w9 ⟨rfl, hbw9⟩
            have Kw9 := hide (keep2U (hbw9 _) hHeld)
            refine hK.out _ _ Kw9.out (fun hHeld2 => ?_)
            clear hK K hHeld
            have hHeld := hHeld2
            clear hHeld2
            simp only [List.setIfInBounds_toArray, List.set_cons_succ, List.set_cons_zero]
            refine wpAnyH_take (i := 8) (v := .bool false) rfl (by kernel_rfl) (by kernel_rfl) (by kernel_rfl) (fun _ _ _ h => h) (Or.inl ⟨by rfl, ?_⟩) (by assumption) ?_
            · intro w hSw; (try dsimp only at hSw); go_simp
            simp only [Act.put, List.getElem_toArray, List.getElem_cons_succ, List.getElem_cons_zero, List.setIfInBounds_toArray, List.set_cons_succ, List.set_cons_zero]
            refine wpAnyH_done (by kernel_rfl) ?_ _
            clear hHeld
            have HS9 := hide (HS6.out.all (fun D => (Below.drew' D w6).trans (hbw9 D)))
            clear hbw9 Kw9 hK0 HSM
            go_wp2
            go_roundw
            case rel => exact ⟨k + 1, _, _, false, by omega, by go_num, rfl, HS9.out, by simpa using HE.out, (by have := HF2.out; simp at this ⊢; omega)⟩
            case measure => simp [intOf]; omega
      · have HE := hide heq
        clear heq
        go_wp2
        refine wp_region_held_drew (S := (fun W => W.cell? ⟨b1, o1 + k * 5, none⟩ = some (.slice pt rs[k].pa.length ct) ∧ W.cell? ⟨w.heap.size, 0, none⟩ = some (.slice pa r.pa.length pc))) (by kernel_rfl) hK6 (fun hHeld => ?_)
        simp only [List.size_toArray, List.length_cons, List.length_nil, Nat.reduceAdd, Array.replicate_succ, Array.replicate_zero, List.push_toArray, List.nil_append, List.cons_append]
        refine wpAnyH_take (i := 0) (v := ?_) rfl (by kernel_rfl) (by kernel_rfl) (by kernel_rfl) (fun _ _ _ h => h) (Or.inl ⟨by rfl, ?_⟩) (by assumption) ?_
        rotate_left
        · intro w hSw; (try dsimp only at hSw); go_simp; try with_reducible rfl
        simp only [Act.put, List.getElem_toArray, List.getElem_cons_zero, List.setIfInBounds_toArray, List.set_cons_zero]
        refine wpAnyH_take (i := 1) (v := ?_) rfl (by kernel_rfl) (by kernel_rfl) (by kernel_rfl) (fun _ _ _ h => h) (Or.inl ⟨by rfl, ?_⟩) (by assumption) ?_
        rotate_left
        · intro w hSw; (try dsimp only at hSw); go_simp; try with_reducible rfl
        simp only [Act.put, List.getElem_toArray, List.getElem_cons_succ, List.getElem_cons_zero, List.setIfInBounds_toArray, List.set_cons_succ, List.set_cons_zero]
        refine wpAnyH_take (i := 2) (v := .bool false) rfl (by kernel_rfl) (by kernel_rfl) (by kernel_rfl) (fun _ _ _ h => h) (Or.inl ⟨by rfl, ?_⟩) (by assumption) ?_
        · intro w hSw; (try dsimp only at hSw); go_simp
        simp only [Act.put, List.getElem_toArray, List.getElem_cons_succ, List.getElem_cons_zero, List.setIfInBounds_toArray, List.set_cons_succ, List.set_cons_zero]
        refine wpAnyH_take (i := 3) (v := undef) rfl (by kernel_rfl) (by kernel_rfl) (by kernel_rfl) (fun _ _ _ h => h) (Or.inr ⟨by rfl, rfl⟩) (by assumption) ?_
        simp only [Act.put, List.getElem_toArray, List.getElem_cons_succ, List.getElem_cons_zero, List.setIfInBounds_toArray, List.set_cons_succ, List.set_cons_zero]
        refine wpAnyH_take (i := 4) (v := undef) rfl (by kernel_rfl) (by kernel_rfl) (by kernel_rfl) (fun _ _ _ h => h) (Or.inr ⟨by rfl, rfl⟩) (by assumption) ?_
        simp only [Act.put, List.getElem_toArray, List.getElem_cons_succ, List.getElem_cons_zero, List.setIfInBounds_toArray, List.set_cons_succ, List.set_cons_zero]
        refine wpAnyH_take (i := 5) (v := undef) rfl (by kernel_rfl) (by kernel_rfl) (by kernel_rfl) (fun _ _ _ h => h) (Or.inr ⟨by rfl, rfl⟩) (by assumption) ?_
        simp only [Act.put, List.getElem_toArray, List.getElem_cons_succ, List.getElem_cons_zero, List.setIfInBounds_toArray, List.set_cons_succ, List.set_cons_zero]
        refine wpAnyH_take (i := 6) (v := undef) rfl (by kernel_rfl) (by kernel_rfl) (by kernel_rfl) (fun _ _ _ h => h) (Or.inr ⟨by rfl, rfl⟩) (by assumption) ?_
        simp only [Act.put, List.getElem_toArray, List.getElem_cons_succ, List.getElem_cons_zero, List.setIfInBounds_toArray, List.set_cons_succ, List.set_cons_zero]
        refine wpAnyH_take (i := 7) (v := undef) rfl (by kernel_rfl) (by kernel_rfl) (by kernel_rfl) (fun _ _ _ h => h) (Or.inr ⟨by rfl, rfl⟩) (by assumption) ?_
        simp only [Act.put, List.getElem_toArray, List.getElem_cons_succ, List.getElem_cons_zero, List.setIfInBounds_toArray, List.set_cons_succ, List.set_cons_zero]
        refine wpAnyH_take (i := 8) (v := undef) rfl (by kernel_rfl) (by kernel_rfl) (by kernel_rfl) (fun _ _ _ h => h) (Or.inr ⟨by rfl, rfl⟩) (by assumption) ?_
        simp only [Act.put, List.getElem_toArray, List.getElem_cons_succ, List.getElem_cons_zero, List.setIfInBounds_toArray, List.set_cons_succ, List.set_cons_zero]
        refine wpAnyH_take (i := 9) (v := undef) rfl (by kernel_rfl) (by kernel_rfl) (by kernel_rfl) (fun _ _ _ h => h) (Or.inr ⟨by rfl, rfl⟩) (by assumption) ?_
        simp only [Act.put, List.getElem_toArray, List.getElem_cons_succ, List.getElem_cons_zero, List.setIfInBounds_toArray, List.set_cons_succ, List.set_cons_zero]
        refine wpAnyH_take (i := 10) (v := undef) rfl (by kernel_rfl) (by kernel_rfl) (by kernel_rfl) (fun _ _ _ h => h) (Or.inr ⟨by rfl, rfl⟩) (by assumption) ?_
        simp only [Act.put, List.getElem_toArray, List.getElem_cons_succ, List.getElem_cons_zero, List.setIfInBounds_toArray, List.set_cons_succ, List.set_cons_zero]
        refine wpAnyH_take (i := 11) (v := undef) rfl (by kernel_rfl) (by kernel_rfl) (by kernel_rfl) (fun _ _ _ h => h) (Or.inr ⟨by rfl, rfl⟩) (by assumption) ?_
        simp only [Act.put, List.getElem_toArray, List.getElem_cons_succ, List.getElem_cons_zero, List.setIfInBounds_toArray, List.set_cons_succ, List.set_cons_zero]
        refine wpAnyH_take (i := 12) (v := .bool false) rfl (by kernel_rfl) (by kernel_rfl) (by kernel_rfl) (fun _ _ _ h => h) (Or.inl ⟨by rfl, ?_⟩) (by assumption) ?_
        · intro w hSw; (try dsimp only at hSw); go_simp
        simp only [Act.put, List.getElem_toArray, List.getElem_cons_succ, List.getElem_cons_zero, List.setIfInBounds_toArray, List.set_cons_succ, List.set_cons_zero]
        refine wpAnyH_done (by kernel_rfl) ?_ _
        clear hHeld
        have HS6 := hide (ST.out.all (fun D => Below.drew' D wr))
        clear hK6 ST
        have HE2 := hide (show ts.map (·.r) ++ ((if sameL rs[k].pa r.pa = true then [] else [rs[k]]) ++ putR r true (List.drop (k + 1) rs)) = putR r false rs by simpa using HE.out)
        clear HE
        have HE := HE2
        clear HE2
        go_wp2_with fail
        have hK0 : wr.drew.drew.cell? ⟨b1, o1 + k * 5, none⟩ = some (.slice pt rs[k].pa.length ct) ∧ wr.drew.drew.cell? ⟨w.heap.size, 0, none⟩ = some (.slice pa r.pa.length pc) := ⟨(HS6.out.cw.cell (p := ⟨b1, o1 + k * 5, none⟩) hb1w).trans hc0, HS6.out.bx.1⟩
        have HSM := hide (specSamePath_any pt pa rs[k].pa r.pa ct pc B B wr.drew.drew (HIT.out.ph.below (below_drewP HS6.out.cw) hB) (HIN.out.ph.below (below_drewP HS6.out.cw) hB) (Nat.le_trans HIT.out.pl HIT.out.pm) (Nat.le_trans HIN.out.pl HIN.out.pm))
        obtain ⟨z2, hz2⟩ : ∃ z, sameL rs[k].pa r.pa = z := ⟨_, rfl⟩
        rw [hz2] at HSM HE
        clear hz2
        cases z2
        · go_wp2
          refine wp_region_held_drew (S := (fun W => W.cell? ⟨b1, o1 + k * 5, none⟩ = some (.slice pt rs[k].pa.length ct) ∧ W.cell? ⟨w.heap.size, 0, none⟩ = some (.slice pa r.pa.length pc))) (by kernel_rfl) hK0 (fun hHeld => ?_)
          simp only [List.size_toArray, List.length_cons, List.length_nil, Nat.reduceAdd, Array.replicate_succ, Array.replicate_zero, List.push_toArray, List.nil_append, List.cons_append]
          refine wpAnyH_take (i := 0) (v := ?_) rfl (by kernel_rfl) (by kernel_rfl) (by kernel_rfl) (fun _ _ _ h => h) (Or.inl ⟨by rfl, ?_⟩) (by assumption) ?_
          rotate_left
          · intro w hSw; (try dsimp only at hSw); go_simp; try with_reducible rfl
          simp only [Act.put, List.getElem_toArray, List.getElem_cons_zero, List.setIfInBounds_toArray, List.set_cons_zero]
          refine wpAnyH_take (i := 1) (v := ?_) rfl (by kernel_rfl) (by kernel_rfl) (by kernel_rfl) (fun _ _ _ h => h) (Or.inl ⟨by rfl, ?_⟩) (by assumption) ?_
          rotate_left
          · intro w hSw; (try dsimp only at hSw); go_simp; try with_reducible rfl
          simp only [Act.put, List.getElem_toArray, List.getElem_cons_succ, List.getElem_cons_zero, List.setIfInBounds_toArray, List.set_cons_succ, List.set_cons_zero]
          refine wpAnyH_take (i := 2) (v := ?_) rfl (by kernel_rfl) (by kernel_rfl) (by kernel_rfl) (fun _ _ _ h => h) (Or.inl ⟨by rfl, ?_⟩) (by assumption) ?_
          rotate_left
          · intro w hSw; (try dsimp only at hSw); go_simp; try with_reducible rfl
          simp only [Act.put, List.getElem_toArray, List.getElem_cons_succ, List.getElem_cons_zero, List.setIfInBounds_toArray, List.set_cons_succ, List.set_cons_zero]
          refine wpAnyH_take (i := 3) (v := ?_) rfl (by kernel_rfl) (by kernel_rfl) (by kernel_rfl) (fun _ _ _ h => h) (Or.inl ⟨by rfl, ?_⟩) (by assumption) ?_
          rotate_left
          · intro w hSw; (try dsimp only at hSw); go_simp; try with_reducible rfl
          simp only [Act.put, List.getElem_toArray, List.getElem_cons_succ, List.getElem_cons_zero, List.setIfInBounds_toArray, List.set_cons_succ, List.set_cons_zero]
          refine wpAnyH_take (i := 4) (v := ?_) rfl (by kernel_rfl) (by kernel_rfl) (by kernel_rfl) (fun _ _ _ h => h) (Or.inl ⟨by rfl, ?_⟩) (by assumption) ?_
          rotate_left
          · intro w hSw; (try dsimp only at hSw); go_simp; try with_reducible rfl
          simp only [Act.put, List.getElem_toArray, List.getElem_cons_succ, List.getElem_cons_zero, List.setIfInBounds_toArray, List.set_cons_succ, List.set_cons_zero]
          refine wpAnyH_take (i := 5) (v := ?_) rfl (by kernel_rfl) (by kernel_rfl) (by kernel_rfl) (fun _ _ _ h => h) (Or.inl ⟨by rfl, ?_⟩) (by assumption) ?_
          rotate_left
          · intro w hSw; (try dsimp only at hSw); go_simp; try with_reducible rfl
          simp only [Act.put, List.getElem_toArray, List.getElem_cons_succ, List.getElem_cons_zero, List.setIfInBounds_toArray, List.set_cons_succ, List.set_cons_zero]
          refine wpAnyH_take (i := 6) (v := ?_) rfl (by kernel_rfl) (by kernel_rfl) (by kernel_rfl) (fun _ _ _ h => h) (Or.inl ⟨by rfl, ?_⟩) (by assumption) ?_
          rotate_left
          · intro w hSw; (try dsimp only at hSw); go_simp; try with_reducible rfl
          simp only [Act.put, List.getElem_toArray, List.getElem_cons_succ, List.getElem_cons_zero, List.setIfInBounds_toArray, List.set_cons_succ, List.set_cons_zero]
          refine wpAnyH_ready (rs := [7]) (by kernel_rfl) (by simp) ?_
          refine AllReadyH.cons rfl (fun K hK => ?_) AllReadyH.nil
          go_simp
          refine (HSM.out).mono ?_
          rintro e w9 ⟨rfl, hbw9⟩
          have Kw9 := hide (keep2U (hbw9 _) hHeld)
          refine hK.out _ _ Kw9.out (fun hHeld2 => ?_)
          clear hK K hHeld
          have hHeld := hHeld2
          clear hHeld2
          simp only [List.setIfInBounds_toArray, List.set_cons_succ, List.set_cons_zero]
          refine wpAnyH_take (i := 8) (v := .bool true) rfl (by kernel_rfl) (by kernel_rfl) (by kernel_rfl) (fun _ _ _ h => h) (Or.inl ⟨by rfl, ?_⟩) (by assumption) ?_
          · intro w hSw; (try dsimp only at hSw); go_simp
          simp only [Act.put, List.getElem_toArray, List.getElem_cons_succ, List.getElem_cons_zero, List.setIfInBounds_toArray, List.set_cons_succ, List.set_cons_zero]
          refine wpAnyH_done (by kernel_rfl) ?_ _
          clear hHeld
          have HS9 := hide (HS6.out.all (fun D => (Below.drew' D wr.drew).trans (hbw9 D)))
          clear hbw9 Kw9 hK0 HSM
          have e0 := (HS9.out.cw.cell (p := ⟨b1, o1 + k * 5, none⟩) hb1w).trans hc0
          have e1 := (HS9.out.cw.cell (p := ⟨b1, o1 + k * 5 + 1, none⟩) hb1w).trans hc1
          have e2 := (HS9.out.cw.cell (p := ⟨b1, o1 + k * 5 + 2, none⟩) hb1w).trans hc2
          have e3 := (HS9.out.cw.cell (p := ⟨b1, o1 + k * 5 + 3, none⟩) hb1w).trans hc3
          have e4 := (HS9.out.cw.cell (p := ⟨b1, o1 + k * 5 + 4, none⟩) hb1w).trans hc4
          have HCp := hide (specCopy_any rs[k] pt ct qt dt B w9 (HIT.out.below HS9.out.cw hB) (Nat.le_trans hB HS9.out.cw.size) HLT.out.1 HLT.out.2)
          go_wp2_with fail
          refine HCp.out.mono ?_
          rintro e wc ⟨⟨pp, cc, qq, dd, rfl, hpp, hpq, r3, q3, k1, k2, k3, k4⟩, b5⟩
          have bA := (Below.refl wc.heap.size wc).alloc (Nat.le_refl _) (Obj.cells #[.slice (some ⟨pp, 0, none⟩) (rs[k]).pa.length cc, .bool (rs[k]).co, .string (rs[k]).bo, .int .i64 (rs[k]).ve, .slice (some ⟨qq, 0, none⟩) (rs[k]).ps.length dd] 62)
          have HS4 := hide ((HS9.out.next b5).next bA)
          have HR := hide (r3.below bA)
          have HQ := hide (q3.below bA)
          have HKK := hide (And.intro k1 (And.intro k2 (And.intro k3 k4)))
          have hlop : lo ≤ pp := Nat.le_trans HS9.out.g.top hpp
          have hfew : (ts).length + 1 ≤ 1000000000 := by have := HFW.out; simp; omega
          clear r3 q3 b5 bA HCp k1 k2 k3 k4 e0 e1 e2 e3 e4
          go_wp2_with (at_builtin; refine wp_append_res rfl _ _ rfl (w.heap.size + 1) lo _ (ts) rfl HS4.out.g wc.heap.size ⟨rs[k], pp, cc, qq, dd⟩ rfl ?_ hfew HS4.out.lo hlop hpq HR.out HQ.out HKK.out ?_)
          · exact ⟨by simp, by simp, by simp, by simp, by simp⟩
          · intro v1 wd hG' hB'
            have HS5 := hide (HS4.out.grow hG' hB')
            clear hG' hB' HS4 HR HQ HKK hpp hpq hlop hfew
            go_wp2
            go_roundw
            case rel => exact ⟨k + 1, _, _, true, by omega, by go_num, rfl, HS5.out, by rw [List.map_append]; simpa using HE.out, (by have := HF2.out; simp at this ⊢; omega)⟩
            case measure => simp [intOf]; omega
        · go_wp2
          refine wp_region_held_drew (S := (fun W => W.cell? ⟨b1, o1 + k * 5, none⟩ = some (.slice pt rs[k].pa.length ct) ∧ W.cell? ⟨w.heap.size, 0, none⟩ = some (.slice pa r.pa.length pc))) (by kernel_rfl) hK0 (fun hHeld => ?_)
          simp only [List.size_toArray, List.length_cons, List.length_nil, Nat.reduceAdd, Array.replicate_succ, Array.replicate_zero, List.push_toArray, List.nil_append, List.cons_append]
          refine wpAnyH_take (i := 0) (v := ?_) rfl (by kernel_rfl) (by kernel_rfl) (by kernel_rfl) (fun _ _ _ h => h) (Or.inl ⟨by rfl, ?_⟩) (by assumption) ?_
          rotate_left
          · intro w hSw; (try dsimp only at hSw); go_simp; try with_reducible rfl
          simp only [Act.put, List.getElem_toArray, List.getElem_cons_zero, List.setIfInBounds_toArray, List.set_cons_zero]
          refine wpAnyH_take (i := 1) (v := ?_) rfl (by kernel_rfl) (by kernel_rfl) (by kernel_rfl) (fun _ _ _ h => h) (Or.inl ⟨by rfl, ?_⟩) (by assumption) ?_
          rotate_left
          · intro w hSw; (try dsimp only at hSw); go_simp; try with_reducible rfl
          simp only [Act.put, List.getElem_toArray, List.getElem_cons_succ, List.getElem_cons_zero, List.setIfInBounds_toArray, List.set_cons_succ, List.set_cons_zero]
          refine wpAnyH_take (i := 2) (v := ?_) rfl (by kernel_rfl) (by kernel_rfl) (by kernel_rfl) (fun _ _ _ h => h) (Or.inl ⟨by rfl, ?_⟩) (by assumption) ?_
          rotate_left
          · intro w hSw; (try dsimp only at hSw); go_simp; try with_reducible rfl
          simp only [Act.put, List.getElem_toArray, List.getElem_cons_succ, List.getElem_cons_zero, List.setIfInBounds_toArray, List.set_cons_succ, List.set_cons_zero]
          refine wpAnyH_take (i := 3) (v := ?_) rfl (by kernel_rfl) (by kernel_rfl) (by kernel_rfl) (fun _ _ _ h => h) (Or.inl ⟨by rfl, ?_⟩) (by assumption) ?_
          rotate_left
          · intro w hSw; (try dsimp only at hSw); go_simp; try with_reducible rfl
          simp only [Act.put, List.getElem_toArray, List.getElem_cons_succ, List.getElem_cons_zero, List.setIfInBounds_toArray, List.set_cons_succ, List.set_cons_zero]
          refine wpAnyH_take (i := 4) (v := ?_) rfl (by kernel_rfl) (by kernel_rfl) (by kernel_rfl) (fun _ _ _ h => h) (Or.inl ⟨by rfl, ?_⟩) (by assumption) ?_
          rotate_left
          · intro w hSw; (try dsimp only at hSw); go_simp; try with_reducible rfl
          simp only [Act.put, List.getElem_toArray, List.getElem_cons_succ, List.getElem_cons_zero, List.setIfInBounds_toArray, List.set_cons_succ, List.set_cons_zero]
          refine wpAnyH_take (i := 5) (v := ?_) rfl (by kernel_rfl) (by kernel_rfl) (by kernel_rfl) (fun _ _ _ h => h) (Or.inl ⟨by rfl, ?_⟩) (by assumption) ?_
          rotate_left
          · intro w hSw; (try dsimp only at hSw); go_simp; try with_reducible rfl
          simp only [Act.put, List.getElem_toArray, List.getElem_cons_succ, List.getElem_cons_zero, List.setIfInBounds_toArray, List.set_cons_succ, List.set_cons_zero]
          refine wpAnyH_take (i := 6) (v := ?_) rfl (by kernel_rfl) (by kernel_rfl) (by kernel_rfl) (fun _ _ _ h => h) (Or.inl ⟨by rfl, ?_⟩) (by assumption) ?_
          rotate_left
          · intro w hSw; (try dsimp only at hSw); go_simp; try with_reducible rfl
          simp only [Act.put, List.getElem_toArray, List.getElem_cons_succ, List.getElem_cons_zero, List.setIfInBounds_toArray, List.set_cons_succ, List.set_cons_zero]
          refine wpAnyH_ready (rs := [7]) (by kernel_rfl) (by simp) ?_
          refine AllReadyH.cons rfl (fun K hK => ?_) AllReadyH.nil
          go_simp
          refine (HSM.out).mono ?_
          rintro e w9 ⟨rfl, hbw9⟩
          have Kw9 := hide (keep2U (hbw9 _) hHeld)
          refine hK.out _ _ Kw9.out (fun hHeld2 => ?_)
          clear hK K hHeld
          have hHeld := hHeld2
          clear hHeld2
          simp only [List.setIfInBounds_toArray, List.set_cons_succ, List.set_cons_zero]
          refine wpAnyH_take (i := 8) (v := .bool false) rfl (by kernel_rfl) (by kernel_rfl) (by kernel_rfl) (fun _ _ _ h => h) (Or.inl ⟨by rfl, ?_⟩) (by assumption) ?_
          · intro w hSw; (try dsimp only at hSw); go_simp
          simp only [Act.put, List.getElem_toArray, List.getElem_cons_succ, List.getElem_cons_zero, List.setIfInBounds_toArray, List.set_cons_succ, List.set_cons_zero]
          refine wpAnyH_done (by kernel_rfl) ?_ _
          clear hHeld
          have HS9 := hide (HS6.out.all (fun D => (Below.drew' D wr.drew).trans (hbw9 D)))
          clear hbw9 Kw9 hK0 HSM
          go_wp2
          go_roundw
          case rel => exact ⟨k + 1, _, _, true, by omega, by go_num, rfl, HS9.out, by simpa using HE.out, (by have := HF2.out; simp at this ⊢; omega)⟩
          case measure => simp [intOf]; omega
    · rw [List.drop_of_length_le (by omega), putR_nil] at heq
      have HE := hide heq
      clear heq
      cases d
      · obtain ⟨e0, e1, e2, e3, e4⟩ := ST.out.bx
        have HCp := hide (specCopy_any r pa pc qa qc B wr (HIN.out.below ST.out.cw hB) (Nat.le_trans hB ST.out.cw.size) HLR.out.1 HLR.out.2)
        go_wp2_with fail
        refine HCp.out.mono ?_
        rintro e wc ⟨⟨pp, cc, qq, dd, rfl, hpp, hpq, r3, q3, k1, k2, k3, k4⟩, b5⟩
        have bA := (Below.refl wc.heap.size wc).alloc (Nat.le_refl _) (Obj.cells #[.slice (some ⟨pp, 0, none⟩) (r).pa.length cc, .bool (r).co, .string (r).bo, .int .i64 (r).ve, .slice (some ⟨qq, 0, none⟩) (r).ps.length dd] 62)
        have HS4 := hide ((ST.out.next b5).next bA)
        have HR := hide (r3.below bA)
        have HQ := hide (q3.below bA)
        have HKK := hide (And.intro k1 (And.intro k2 (And.intro k3 k4)))
        have hlop : lo ≤ pp := Nat.le_trans ST.out.g.top hpp
        have hfew : (ts).length + 1 ≤ 1000000000 := by have := HFW.out; simp; omega
        clear r3 q3 b5 bA HCp k1 k2 k3 k4 e0 e1 e2 e3 e4
        go_wp2_with (at_builtin; refine wp_append_res rfl _ _ rfl (w.heap.size + 1) lo _ (ts) rfl HS4.out.g wc.heap.size ⟨r, pp, cc, qq, dd⟩ rfl ?_ hfew HS4.out.lo hlop hpq HR.out HQ.out HKK.out ?_)
        · exact ⟨by simp, by simp, by simp, by simp, by simp⟩
        · intro v1 wd hG' hB'
          have HS5 := hide (HS4.out.grow hG' hB')
          clear hG' hB' HS4 HR HQ HKK hpp hpq hlop hfew
          go_wp2
          go_ret
          exact ⟨⟨_, _, rfl, HS5.out.g, by rw [List.map_append]; simpa using HE.out⟩, HS5.out.cw⟩
      · go_wp2
        go_ret
        exact ⟨⟨_, rfl, ts, ST.out.g.up ST.out.g.top (Nat.le_refl _), by simpa using HE.out⟩, ST.out.cw⟩
end Go.Proofs.YtifnolomekhmfaaGreat
