/-
  What spec.DropLock does.
-/
import Derived.Test.YtclnpfpaabmkcabSpecPl
import Derived.Test.YtclnpfpaabmkcabRowC
namespace Go.Proofs.Ytclnpfpaabmkcab
open Go.RowKit M
set_option linter.unusedVariables false

theorem any_take_snoc {P : Lk → Bool} (l : List Lk) (k : Nat) (hk : k < l.length) : (l.take (k + 1)).any P = ((l.take k).any P || P l[k]) := by
  rw [List.take_succ_eq_append_getElem hk, List.any_append]; simp

set_option maxRecDepth 100000 in
set_option maxHeartbeats 4000000 in
theorem specDrop_any (a : Option Addr) (l : List Lk) (cap B : Nat) (t : Int) (w : World) (h : Lks w B a l) (hB : B ≤ w.heap.size) (hl : l.length ≤ 1048576) (hs : ∀ r ∈ l, r.pa.length ≤ 1048576) :
    Calls Try.prog 11 #[.slice a l.length cap, .int .i64 t] w fun e w' => (∃ (g n c : Nat), e = .returned (.tuple #[.slice (some ⟨g, 0, none⟩) n c, .bool (l.any (isTk t))]) ∧ n = (dropL t l).length ∧ n ≤ c ∧ c ≤ maxLen ∧ Lks w' w'.heap.size (some ⟨g, 0, none⟩) (dropL t l)) ∧ Below w.heap.size w w' := by
  have hb0 := (Below.refl w.heap.size w).alloc (Nat.le_refl _) (Obj.cells #[] 26)
  have HQ := hide (l13Copy_any a l cap B _ (h.below hb0 hB) (Nat.le_trans hB hb0.size) (by omega) hs)
  have HO0 := hide (OwnT.made w w.heap.size (Nat.le_refl _))
  have HB0 := hide hb0
  clear hb0 h hs
  go_enter Try.func11, Try.ntmps11
  go_wp2_with fail
  refine HQ.out.mono ?_
  rintro e w1 ⟨⟨g0, c0, ts0, rfl, hts0, hrow0, hp0, hg0, hc01, hc02⟩, b1⟩
  have hg0' : w.heap.size + 1 ≤ g0 := by simpa using hg0
  have HO1 := hide (HO0.out.next b1)
  have HC1 := hide (HB0.out.trans (b1.mono HB0.out.size))
  have hp1 : PathsV w1 (w.heap.size + 1) w.heap.size ts0 := fun t ht => by
    obtain ⟨p, h1, h2, h3, h4, h5⟩ := hp0 t ht
    have h4' : w.heap.size + 1 ≤ p := by simpa using h4
    exact ⟨p, h1, h2, by omega, h4', h5⟩
  have HP1 := hide hp1
  have HR1 := hide hrow0
  have hl0 : ts0.length = l.length := by rw [← hts0, List.length_map]
  have HTS0 := hide hts0
  clear hp0 hp1 hrow0 hts0 b1 hg0 hc01 hc02
  go_wp2
  go_loopw [6, 8, 9] (fun v fd i wr => ∃ (k g n c : Nat) (ts : List LkT) (z : Bool), k ≤ l.length ∧ i = .int .i64 k ∧ v = .slice (some ⟨g, 0, none⟩) n c ∧ fd = .bool z ∧ ts.length ≤ k ∧ Hid (z = (l.take k).any (isTk t)) ∧ Hid (OwnT wr w.heap.size (.slice (some ⟨g, 0, none⟩) n c) ts) ∧ Hid (ts.map (·.r) = dropL t (l.take k)) ∧ Hid (∀ t ∈ ts, t ∈ ts0) ∧ Hid (RowV wr g0 ts0 ∧ PathsV wr (w.heap.size + 1) g ts0 ∧ g0 ≠ g) ∧ Below w.heap.size w wr) (fun _ _ i _ => l.length - (intOf i).toNat)
  case atStart => exact ⟨0, _, _, _, [], false, Nat.zero_le _, rfl, rfl, rfl, Nat.le_refl _, (by show _ = _; simp), HO1, (by show _ = _; simp [dropL]), (fun t ht => by cases ht), ⟨HR1.out, HP1.out, by omega⟩, HC1.out⟩
  case round =>
    obtain ⟨k, g, n, c, ts, z, hk, rfl, rfl, rfl, htl, HZ, HOW, HTS, HSUB, HPK, hbe⟩ := hrel
    by_cases hlt : k < l.length
    · have hkt : k < ts0.length := by omega
      obtain ⟨tt, htt⟩ : ∃ t, ts0[k] = t := ⟨_, rfl⟩
      have htr : tt.r = l[k] := by simp [← htt, ← HTS0.out]
      have hmem : tt ∈ ts0 := by rw [← htt]; exact List.getElem_mem hkt
      have hat := HPK.out.1.2.1 k hkt
      rw [htt] at hat
      obtain ⟨r, pa, pc⟩ := tt
      simp only at htr hat
      subst htr
      obtain ⟨hc0, hc1, hc2, hc3, hc4⟩ := hat
      have HMEM := hide hmem
      have HF := hide (dropL_snoc t (l.take k) l[k])
      have HT1 := hide (List.take_succ_eq_append_getElem hlt)
      have HAN := hide (any_take_snoc (P := isTk t) l k hlt)
      have hzz := HZ.out
      rw [← hzz] at HF HAN
      have HF := HF
      clear hmem htt hzz
      have hln : ts.length + 1 ≤ 1099511627776 := by omega
      have hs2 := hbe.size
      have bA := (Below.refl wr.heap.size wr).alloc (Nat.le_refl _) (Obj.cells #[.int .i64 l[k].tk, .slice pa l[k].pa.length pc, .bool l[k].de, .bool l[k].sh, .int .i64 l[k].un] 26)
      have HO3 := hide (HOW.out.next bA)
      have HP3 := hide (And.intro (HPK.out.1.below bA) (And.intro (HPK.out.2.1.next bA) HPK.out.2.2))
      have HC3 := hide (hbe.trans (bA.mono hs2))
      have hs3 := HC3.out.size
      clear bA
      by_cases hskip : z = false ∧ isTk t l[k] = true
      · obtain ⟨rfl, hy⟩ := hskip
        have hy2 : (l[k].tk == t) = true := hy
        rw [hy] at HF HAN
        clear HO3 HP3 HC3 hs3
        go_wp2
        go_roundw
        case rel => exact ⟨k + 1, g, n, c, ts, true, by omega, by go_num, rfl, rfl, by omega, (by show _ = _; rw [HAN.out]; rfl), HOW, (by show _ = _; rw [HT1.out, HF.out, HTS.out]; simp), HSUB, HPK, hbe⟩
        case measure => simp [intOf]; omega
      · have hkeep : z = true ∨ (z = false ∧ isTk t l[k] = false) := by
          cases z
          · right; exact ⟨rfl, by cases h : isTk t l[k] with | false => rfl | true => exact absurd ⟨rfl, h⟩ hskip⟩
          · left; rfl
        clear hskip
        rcases hkeep with rfl | ⟨rfl, hy⟩
        all_goals
          first
            | (have hy2 : (l[k].tk == t) = false := hy
               rw [hy] at HF HAN)
            | skip
          go_wp2_with (at_builtin; refine wp_append_lkT 32 Try.underlying32 rfl _ _ rfl w.heap.size _ ts rfl HO3.out _ ⟨l[k], pa, pc⟩ rfl (by refine ⟨?_, ?_, ?_, ?_, ?_⟩ <;> simp [go_sem]) hln hs3 ?_)
          intro g9 n9 c9 w9 hn9 hO9 hb9 hg9 hat9
          have HP9 := hide (PickV.next (g9 := g9) HP3.out.1 HP3.out.2.1 HP3.out.2.2 hg9.size (fun x hx hne => hg9.block x hx (fun e => hne (Option.some.inj e))) (by
            rcases hat9 with e | e
            · exact .inl (Option.some.inj e)
            · have e := Option.some.inj e
              exact .inr (by have e2 := e; simp at e2 ⊢; omega)))
          have HO9 := hide hO9
          have HB9 := hide (HC3.out.trans hb9)
          have HSUB9 := hide (show ∀ t ∈ ts ++ [(⟨l[k], pa, pc⟩ : LkT)], t ∈ ts0 from fun t ht => by
            rcases List.mem_append.1 ht with h | h
            · exact HSUB.out t h
            · obtain rfl := List.mem_singleton.1 h; exact HMEM.out)
          clear hO9 hb9 hg9 hn9 hat9 HO3 HP3 HC3 HOW
          go_wp2
          go_roundw
          case rel => exact ⟨k + 1, g9, n9, c9, _, _, by omega, by go_num, rfl, rfl, by simp; omega, (by show _ = _; rw [HAN.out]; rfl), HO9, (by show _ = _; rw [HT1.out, HF.out, List.map_append, HTS.out]; simp), HSUB9, HP9, HB9.out⟩
          case measure => simp [intOf]; omega
    · have HF := hide (show l.take k = l from List.take_of_length_le (by omega))
      obtain ⟨e1, e2, e3, e4, e5⟩ := HOW.out.row
      have hmm : ts.map (·.r) = dropL t l := by rw [HTS.out, HF.out]
      have HLK := hide (lks_of_rowV hmm e2 (fun t ht => HPK.out.2.1.inV t (HSUB.out t ht)) (Nat.le_refl _))
      have HEE := hide (And.intro (show n = (dropL t l).length by rw [e1, ← hmm, List.length_map]) (And.intro e3 e4))
      have HZ2 := hide (show z = l.any (isTk t) by rw [HZ.out, HF.out])
      clear e1 e2 e3 e4 e5 hmm
      go_wp2
      go_ret2
      exact ⟨⟨g, n, c, by rw [HZ2.out]; rfl, HEE.out.1, HEE.out.2.1, HEE.out.2.2, HLK.out⟩, hbe⟩
end Go.Proofs.Ytclnpfpaabmkcab
