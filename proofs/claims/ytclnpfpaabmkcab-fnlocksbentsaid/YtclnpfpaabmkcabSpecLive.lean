/-
  What spec.LiveLocks does.
-/
import Derived.Test.YtclnpfpaabmkcabSpecPl
import Derived.Test.YtclnpfpaabmkcabRowC
namespace Go.Proofs.Ytclnpfpaabmkcab
open Go.RowKit M
set_option linter.unusedVariables false

set_option maxRecDepth 100000 in
set_option maxHeartbeats 4000000 in
theorem specLive_any (a : Option Addr) (l : List Lk) (cap B : Nat) (now : Int) (w : World) (h : Lks w B a l) (hB : B ≤ w.heap.size) (hl : l.length ≤ 1048576) (hs : ∀ r ∈ l, r.pa.length ≤ 1048576) :
    Calls Try.prog 23 #[.slice a l.length cap, .int .i64 now] w fun e w' => (∃ (g n c : Nat), e = .returned (.slice (some ⟨g, 0, none⟩) n c) ∧ n = (l.filter (liveB now)).length ∧ n ≤ c ∧ c ≤ maxLen ∧ Lks w' w'.heap.size (some ⟨g, 0, none⟩) (l.filter (liveB now))) ∧ Below w.heap.size w w' := by
  have hb0 := (Below.refl w.heap.size w).alloc (Nat.le_refl _) (Obj.cells #[] 26)
  have HQ := hide (l13Copy_any a l cap B _ (h.below hb0 hB) (Nat.le_trans hB hb0.size) (by omega) hs)
  have HO0 := hide (OwnT.made w w.heap.size (Nat.le_refl _))
  have HB0 := hide hb0
  clear hb0 h hs
  go_enter Try.func23, Try.ntmps23
  go_wp2_with fail
  refine HQ.out.mono ?_
  rintro e w1 ⟨⟨g0, c0, ts0, rfl, hts0, hrow0, hp0, hg0, hc01, hc02⟩, b1⟩
  have hg0' : w.heap.size + 1 ≤ g0 := by simpa using hg0
  have HO1 := hide (HO0.out.next b1)
  have HC1 := hide (HB0.out.trans (b1.mono HB0.out.size))
  have hgs : w.heap.size < w1.heap.size := by have := b1.size; simp at this; omega
  have hp1 : PathsV w1 (w.heap.size + 1) w.heap.size ts0 := fun t ht => by
    obtain ⟨p, h1, h2, h3, h4, h5⟩ := hp0 t ht
    have h4' : w.heap.size + 1 ≤ p := by simpa using h4
    exact ⟨p, h1, h2, by omega, h4', h5⟩
  have HP1 := hide hp1
  have HR1 := hide hrow0
  have hl0 : ts0.length = l.length := by rw [← hts0, List.length_map]
  have HTS0 := hide hts0
  have HCC := hide (And.intro hc01 hc02)
  clear hp0 hp1 hrow0 hts0 b1 hg0 hc01 hc02
  go_wp2
  go_loopw [5, 7] (fun v i wr => ∃ (k g n c : Nat) (ts : List LkT), k ≤ l.length ∧ i = .int .i64 k ∧ v = .slice (some ⟨g, 0, none⟩) n c ∧ ts.length ≤ k ∧ Hid (OwnT wr w.heap.size (.slice (some ⟨g, 0, none⟩) n c) ts) ∧ Hid (ts.map (·.r) = (l.take k).filter (liveB now)) ∧ Hid (∀ t ∈ ts, t ∈ ts0) ∧ Hid (RowV wr g0 ts0 ∧ PathsV wr (w.heap.size + 1) g ts0 ∧ g0 ≠ g) ∧ Below w.heap.size w wr) (fun _ i _ => l.length - (intOf i).toNat)
  case atStart => exact ⟨0, _, _, _, [], Nat.zero_le _, rfl, rfl, Nat.le_refl _, HO1, (by show _ = _; simp), (fun t ht => by cases ht), ⟨HR1.out, HP1.out, by omega⟩, HC1.out⟩
  case round =>
    obtain ⟨k, g, n, c, ts, hk, rfl, rfl, htl, HOW, HTS, HSUB, HPK, hbe⟩ := hrel
    by_cases hlt : k < l.length
    · have hkt : k < ts0.length := by omega
      obtain ⟨t, ht⟩ : ∃ t, ts0[k] = t := ⟨_, rfl⟩
      have htr : t.r = l[k] := by simp [← ht, ← HTS0.out]
      have hmem : t ∈ ts0 := by rw [← ht]; exact List.getElem_mem hkt
      have hat := HPK.out.1.2.1 k hkt
      rw [ht] at hat
      obtain ⟨r, pa, pc⟩ := t
      simp only at htr hat
      subst htr
      obtain ⟨hc0, hc1, hc2, hc3, hc4⟩ := hat
      have HMEM := hide hmem
      have hi0 : (0 : Int) ≤ (k : Int) := by omega
      have hi1 : (k : Int) < (l.length : Int) := by omega
      have HF := hide (show (l.take (k + 1)).filter (liveB now) = (l.take k).filter (liveB now) ++ (if liveB now l[k] = true then [l[k]] else []) by rw [List.take_succ_eq_append_getElem hlt, List.filter_append, List.filter_cons, List.filter_nil])
      clear hmem ht
      by_cases hz : now < l[k].un
      · have hz1 : liveB now l[k] = true := decide_eq_true hz
        rw [hz1] at HF
        have hs2 := hbe.size
        have bA := (Below.refl wr.heap.size wr).alloc (Nat.le_refl _) (Obj.cells #[.int .i64 l[k].tk, .slice pa l[k].pa.length pc, .bool l[k].de, .bool l[k].sh, .int .i64 l[k].un] 26)
        have HO3 := hide (HOW.out.next bA)
        have HP3 := hide (And.intro (HPK.out.1.below bA) (And.intro (HPK.out.2.1.next bA) HPK.out.2.2))
        have HC3 := hide (hbe.trans (bA.mono hs2))
        have hln : ts.length + 1 ≤ 1099511627776 := by omega
        have hs3 := HC3.out.size
        clear bA HPK hz1
        go_wp2_with (at_builtin; refine wp_append_lkT 32 Try.underlying32 rfl _ _ rfl w.heap.size _ ts rfl HO3.out _ ⟨l[k], pa, pc⟩ rfl (by refine ⟨?_, ?_, ?_, ?_, ?_⟩ <;> simp [go_sem]) hln hs3 ?_)
        intro g9 n9 c9 w9 hn9 hO9 hb9 hg9 hat9
        have HP9 := hide (PickV.next (g9 := g9) HP3.out.1 HP3.out.2.1 HP3.out.2.2 hg9.size (fun x hx hne => hg9.block x hx (fun e => hne (Option.some.inj e))) (by
          rcases hat9 with e | e
          · exact .inl (Option.some.inj e)
          · have e := Option.some.inj e
            exact .inr (by have e2 := e; simp at e2 ⊢; omega)))
        have HO9 := hide hO9
        have HB9 := hide (HC3.out.trans hb9)
        have HSUB9 := hide (show ∀ t ∈ ts ++ [(⟨l[k], pa, pc⟩ : LkT)], t ∈ ts0 from fun t ht => by
          rcases List.mem_append.1 ht with h | h
          · exact HSUB.out t h
          · obtain rfl := List.mem_singleton.1 h; exact HMEM.out)
        clear hO9 hb9 hg9 hn9 hat9 HO3 HP3 HC3 HOW
        go_wp2
        go_roundw
        case rel => exact ⟨k + 1, g9, n9, c9, _, by omega, by go_num, rfl, by simp; omega, HO9, (by show _ = _; rw [HF.out, List.map_append, HTS.out]; simp), HSUB9, HP9, HB9.out⟩
        case measure => simp [intOf]; omega
      · have hz1 : liveB now l[k] = false := decide_eq_false hz
        rw [hz1] at HF
        clear hz1
        go_wp2
        go_roundw
        case rel => exact ⟨k + 1, g, n, c, ts, by omega, by go_num, rfl, by omega, HOW, (by show _ = _; rw [HF.out, HTS.out]; simp), HSUB, HPK, hbe⟩
        case measure => simp [intOf]; omega
    · have HF := hide (show l.take k = l from List.take_of_length_le (by omega))
      obtain ⟨e1, e2, e3, e4, e5⟩ := HOW.out.row
      have hmm : ts.map (·.r) = l.filter (liveB now) := by rw [HTS.out, HF.out]
      have HLK := hide (lks_of_rowV hmm e2 (fun t ht => HPK.out.2.1.inV t (HSUB.out t ht)) (Nat.le_refl _))
      have HEE := hide (And.intro (show n = (l.filter (liveB now)).length by rw [e1, ← hmm, List.length_map]) (And.intro e3 e4))
      clear e1 e2 e3 e4 e5 hmm
      go_wp2
      go_ret
      exact ⟨⟨g, n, c, rfl, HEE.out.1, HEE.out.2.1, HEE.out.2.2, HLK.out⟩, hbe⟩
end Go.Proofs.Ytclnpfpaabmkcab
