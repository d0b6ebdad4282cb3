/-
  What spec.FindRes does.
  What spec.TagAt does.
  What spec.TagAt does, over views.
  What both sides' MatchOk does.
  What both sides' NoneOk does.
  What impl.Above does.
  'append([]string{}, p...)' of whatever slice of texts.
  What spec.Above does of a path of one name at least.
  Above on both sides, over views.
  What impl.touching and impl.MayTurn do.
  What impl.MayTurn does.
  What spec.MayTurn does.
-/
import Derived.Test.YtfhcniifennfbaaGreatDoorSliceEq
import Derived.Test.YtfhcniifennfbaaGreatDoorSvIn
import Derived.Test.YtfhcniifennfbaaGreatDoorTurn
import Derived.Test.YtfhcniifennfbaaGreatDoorMathMark2
import Derived.OpenShut
import Derived.Test.YtfhcniifennfbaaGreatDoorSpecLower
import Derived.Test.YtfhcniifennfbaaGreatDoorGenLock
import Derived.Test.YtfhcniifennfbaaGreatDoorHas9
import Derived.Test.YtfhcniifennfbaaGreatDoorIntsV
namespace Go.Proofs.YtfhcniifennfbaaGreatDoor
open Go.RowKit M
set_option linter.unusedVariables false

theorem ret_intS {a b : Int} (h : a = b) : Ending.returned (.int .i64 a) = .returned (.int .i64 b) := by rw [h]

set_option maxHeartbeats 1000000 in
theorem specFind_any (a : Option Addr) (rs : List Rs) (cap B : Nat) (a' : Option Addr) (p : List ByteArray) (cap' C : Nat) (w : World) (h : Rss w B a rs) (h' : Strs w C a' p) (hl : rs.length ≤ maxLen) (hl' : p.length ≤ maxLen) :
    Calls Tryz.prog 86 #[.slice a rs.length cap, .slice a' p.length cap'] w fun e w' => e = .returned (.int .i64 (findI rs p)) ∧ ∀ D, Below D w w' := by
  unfold maxLen at hl
  go_enter Tryz.func86, Tryz.ntmps86
  go_wp2
  go_loopw [5] (fun i wr => ∃ k : Nat, k ≤ rs.length ∧ i = .int .i64 k ∧ (∀ j (hj : j < rs.length), j < k → sameL rs[j].pa p = false) ∧ ∀ D, Below D w wr) (fun i _ => rs.length - (intOf i).toNat)
  case atStart => exact ⟨0, Nat.zero_le _, rfl, fun j _ hj => absurd hj (Nat.not_lt_zero _), fun D => Below.refl _ _⟩
  case round =>
    obtain ⟨k, hk, rfl, ht, hbe⟩ := hrel
    have HT := hide ht
    clear ht
    by_cases hlt : k < rs.length
    · obtain ⟨b, o, rfl, hb, hcc⟩ := (h.below (hbe B) (Nat.le_refl _)) (by omega)
      obtain ⟨pa, pc, qa, qc, ⟨hc0, hc1, hc2, hc3, hc4⟩, hin⟩ := hcc k hlt
      clear hcc
      have HC := hide (specSamePath_any pa a' rs[k].pa p pc cap' B C wr hin.ph (h'.below (hbe C) (Nat.le_refl _)) (Nat.le_trans hin.pl hin.pm) hl')
      obtain ⟨z, hz⟩ : ∃ z, sameL rs[k].pa p = z := ⟨_, rfl⟩
      rw [hz] at HC
      have HZ := hide hz
      clear hz hin
      go_wp2_with fail
      refine HC.out.mono ?_
      rintro e w1 ⟨rfl, hb1⟩
      have c1 : ∀ D, Below D w w1 := fun D => (hbe D).trans (hb1 D)
      clear HC
      cases z
      · go_wp2
        go_roundw
        case rel => exact ⟨k + 1, by omega, by go_num, fun j hj hjk => by
                      by_cases e : j = k
                      · subst e; exact HZ.out
                      · exact HT.out j hj (by omega), c1⟩
        case measure => simp [intOf]; omega
      · go_wp2
        go_ret
        exact ⟨ret_intS (findI_at k hlt HT.out HZ.out).symm, c1⟩
    · have HE := hide (findI_none (rs := rs) (p := p) (fun j hj => HT.out j hj (by omega)))
      go_wp2
      go_ret
      exact ⟨ret_intS HE.out.symm, hbe⟩
end Go.Proofs.YtfhcniifennfbaaGreatDoor
namespace Go.Proofs.YtfhcniifennfbaaGreatDoor
open Go.RowKit M
set_option linter.unusedVariables false

set_option maxRecDepth 100000 in
set_option maxHeartbeats 4000000 in
theorem specTagAt_any (x : Sv) (p : List ByteArray) (ta : Option Addr) (tc : Nat) (la : Option Addr) (lc : Nat) (da : Option Addr) (dc : Nat) (ua : Option Addr) (uc B : Nat) (a : Option Addr) (cap D : Nat) (w : World) (h : SvIn w B x ta tc la lc da dc ua uc) (hB : B ≤ w.heap.size) (hs : SvSmall x) (hp : Strs w D a p) (hD : D ≤ w.heap.size) (hpl : p.length ≤ maxLen) (hv : ∀ r ∈ x.t, r.ve ≤ 9223372036854775807) :
    Calls Tryz.prog 54 #[.agg #[.slice ta x.t.length tc, .slice la x.l.length lc, .int .i64 x.now, .int .i64 x.ver, .slice da x.dr.length dc, .slice ua x.us.length uc], .slice a p.length cap] w fun e w' => e = .returned (.tuple #[.string (tagAtT x p), .bool (tagAtB x p)]) ∧ Below w.heap.size w w' := by
  have K0 := hide (show Below w.heap.size w (w.alloc (Obj.cells #[.slice ta x.t.length tc, .slice la x.l.length lc, .int .i64 x.now, .int .i64 x.ver, .slice da x.dr.length dc, .slice ua x.us.length uc] 39)) from (Below.refl _ _).alloc (Nat.le_refl _) _)
  have X0 := hide (BoxV.made w [.slice ta x.t.length tc, .slice la x.l.length lc, .int .i64 x.now, .int .i64 x.ver, .slice da x.dr.length dc, .slice ua x.us.length uc] 39)
  have HT := hide (fun W (hb : Below w.heap.size w W) => h.th.below hb hB)
  have HF := hide (fun W (hb : Below w.heap.size w W) => (specFind_any ta x.t tc B a p cap D W (h.th.below hb hB) (hp.below hb hD) (Nat.le_trans h.tl.1 h.tl.2.1) hpl).mono (fun e w2 (q : _ ∧ _) => (⟨q.1, q.2 W.heap.size⟩ : _ ∧ Below W.heap.size W w2)))
  have HG := hide (fun (n : Int) (W : World) (hb : Below w.heap.size w W) (hn : n ≤ 9223372036854775807) => specTagText_any n W hn)
  have hm : x.t.length ≤ 1048576 := hs.tlen
  have HV := hide hv
  by_cases h0 : p.length = 0
  · obtain ⟨r1, r2⟩ := tagAt_root x p h0
    rw [r1, r2]
    have hi : (p.length : Int) = 0 := by omega
    clear h hs hp hv r1 r2 HF HT HV
    have HQ := hide (HG.out 0 _ K0.out (by decide))
    obtain ⟨d, hd⟩ : ∃ d : ByteArray, tagV 0 = d := ⟨_, rfl⟩
    unfold tagV at hd
    rw [hd] at HQ
    unfold tagV
    rw [hd]
    clear hd h0 HG
    go_enter Tryz.func54, Tryz.ntmps54
    go_wp2_with fail
    refine HQ.out.mono ?_
    rintro e w1 ⟨rfl, b1⟩
    have K1 := hide (K0.out.trans (b1.mono K0.out.size))
    clear b1
    go_wp2
    go_ret2
    exact ⟨rfl, K1.out⟩
  have hi : ¬ (p.length : Int) = 0 := by omega
  rcases findI_cases x.t p with h2 | ⟨k, hk, h2, _⟩
  · obtain ⟨r1, r2⟩ := tagAt_none x p h0 h2
    rw [r1, r2]
    rw [h2] at HF
    have x0 := (X0.out.2 0 _ rfl).1
    clear h hs hp hv r1 r2 HV HG h0 HT h2
    go_enter Tryz.func54, Tryz.ntmps54
    go_wp2_with fail
    refine (HF.out _ K0.out).mono ?_
    rintro e w1 ⟨rfl, b1⟩
    have K1 := hide (K0.out.trans (b1.mono K0.out.size))
    clear b1 x0
    go_wp2
    go_ret2
    exact ⟨rfl, K1.out⟩
  · obtain ⟨r1, r2⟩ := tagAt_some x p h0 k hk h2
    rw [r1, r2]
    rw [h2] at HF
    have x0 := (X0.out.2 0 _ rfl).1
    obtain ⟨d, hd⟩ : ∃ d : ByteArray, tagV x.t[k].ve = d := ⟨_, rfl⟩
    rw [hd]
    unfold tagV at hd
    have HD := hide hd
    clear hd
    have hk0 : ¬ ((k : Int) < 0) := by omega
    have hk1 : (k : Int) < (x.t.length : Int) := by omega
    have hk2 : (0 : Int) ≤ (k : Int) := by omega
    clear h hs hp hv r1 r2 h0 h2
    go_enter Tryz.func54, Tryz.ntmps54
    go_wp2_with fail
    refine (HF.out _ K0.out).mono ?_
    rintro e w1 ⟨rfl, b1⟩
    have K1 := hide (K0.out.trans (b1.mono K0.out.size))
    have X1 := hide (X0.out.next b1)
    clear b1 x0 K0 X0 HF
    have x1 := (X1.out.2 0 _ rfl).1
    obtain ⟨b, o, hta, hbB, hc⟩ := HT.out _ K1.out (by omega)
    obtain ⟨pa, pc, qa, qc, hat, hin⟩ := hc k hk
    subst hta
    have c3 := hat.2.2.2.1
    have HQ := hide (HG.out x.t[k].ve _ K1.out (HV.out _ (List.getElem_mem hk)))
    rw [HD.out] at HQ
    clear HD hc hat hin HG HV HT hbB
    go_wp2_with fail
    refine HQ.out.mono ?_
    rintro e w2 ⟨rfl, b2⟩
    have K2 := hide (K1.out.trans (b2.mono K1.out.size))
    clear b2
    go_wp2
    go_ret2
    exact ⟨rfl, K2.out⟩
end Go.Proofs.YtfhcniifennfbaaGreatDoor
namespace Go.Proofs.YtfhcniifennfbaaGreatDoor
open Go.RowKit M
set_option linter.unusedVariables false

theorem ve_wf {x : Sv} (ok : okR (dSv x)) : ∀ r ∈ x.t, r.ve ≤ 9223372036854775807 := fun r hr => by
  have h1 := okR_mem ok (.l (x.t.map dRs)) (by simp [dSv])
  have h2 := (okRs_mem _ h1.1 (dRs r) (List.mem_map_of_mem hr)).1
  have h3 : (Lit.int .i64 r.ve).wf = true := okR_mem h2 (.c (.int .i64 r.ve)) (by simp [dRs])
  have := bounds_i64 h3
  omega
theorem specTagAt_gen (x : Sv) (p : List ByteArray) (u0 u1 u4 u5 v : Value) (W : World) (h0 : View W W.heap.size u0 (.l (x.t.map dRs))) (h1 : View W W.heap.size u1 (.l (x.l.map dLk))) (h4 : View W W.heap.size u4 (.l (x.dr.map dI))) (h5 : View W W.heap.size u5 (.l (x.us.map dI))) (hv : View W W.heap.size v (.l (p.map dS))) (hsz : szR (dSv x) ≤ 1048576) (ok : okR (dSv x)) :
    Calls Tryz.prog 54 #[.agg #[u0, u1, .int .i64 x.now, .int .i64 x.ver, u4, u5], v] W fun e w' => e = .returned (.tuple #[.string (tagAtT x p), .bool (tagAtB x p)]) ∧ Below W.heap.size W w' := by
  obtain ⟨ta, tc, la, lc, da, dc, ua, uc, rfl, rfl, rfl, rfl, h⟩ := svIn_of_view h0 h1 h4 h5
  obtain ⟨a, cap, rfl, k1, k2, k3, k4⟩ := strs_of_view hv
  exact specTagAt_any x p ta tc la lc da dc ua uc W.heap.size a cap W.heap.size W h (Nat.le_refl _) (sv_small hsz) k4 (Nat.le_refl _) (Nat.le_trans k1 k2) (ve_wf ok)
end Go.Proofs.YtfhcniifennfbaaGreatDoor
namespace Go.Proofs.YtfhcniifennfbaaGreatDoor
open Go.RowKit M
set_option linter.unusedVariables false

set_option maxHeartbeats 1000000 in
theorem matchOk_any (s t : ByteArray) (q : Bool) (w : World) (hs : s.size ≤ 1048576) :
    Calls Tryz.prog 137 #[.string s, .bool q, .string t] w fun e w' => e = .returned (.bool (q && namB s.data.toList t)) ∧ Below w.heap.size w w' := by
  have HN := hide (isNamed_any s t w hs)
  cases q
  · go_enter Tryz.func137, Tryz.ntmps137
    go_wp2
    go_ret
    exact ⟨ret_bool rfl, Below.refl _ _⟩
  · go_enter Tryz.func137, Tryz.ntmps137
    go_wp2_with fail
    refine HN.out.mono ?_
    rintro e w1 ⟨rfl, b1⟩
    go_wp2
    go_ret
    exact ⟨ret_bool rfl, b1⟩

set_option maxHeartbeats 2000000 in
theorem specMatchOk_any (s t : ByteArray) (q : Bool) (w : World) (hs : s.size ≤ 1048576) :
    Calls Tryz.prog 57 #[.string s, .bool q, .string t] w fun e w' => e = .returned (.bool (q && namB s.data.toList t)) ∧ Below w.heap.size w w' := by
  have HP := hide (specParseTags_any s w hs)
  unfold TagRet at HP
  have HST := star_iff s
  have h5 := tagsR_len9 s.data.toList
  cases hok : (tagsR s.data.toList).2
  · have HR := hide (namB_bad (t := t) hok)
    rw [hok] at HP
    clear hok h5
    go_enter Tryz.func57, Tryz.ntmps57
    go_wp2_with fail
    refine HP.out.mono ?_
    rintro e w1 ⟨⟨v, rfl, ho⟩, b1⟩
    clear ho HST
    go_wp2
    go_ret
    exact ⟨ret_bool (by rw [HR.out, Bool.and_false]), b1⟩
  · rw [hok] at HP
    clear hok
    cases q
    · go_enter Tryz.func57, Tryz.ntmps57
      go_wp2_with fail
      refine HP.out.mono ?_
      rintro e w1 ⟨⟨v, rfl, ho⟩, b1⟩
      clear ho HST
      go_wp2
      go_ret
      exact ⟨ret_bool rfl, b1⟩
    · by_cases h0 : s.data.toList = [42]
      · have HR := hide (namB_star (t := t) h0)
        rw [decide_eq_true h0] at HST
        clear h0
        go_enter Tryz.func57, Tryz.ntmps57
        go_wp2_with fail
        refine HP.out.mono ?_
        rintro e w1 ⟨⟨v, rfl, ho⟩, b1⟩
        clear ho
        go_wp2
        go_ret
        exact ⟨ret_bool (by rw [HR.out]; rfl), b1⟩
      · have HR := hide (namB_not (t := t) h0)
        rw [decide_eq_false h0] at HST
        clear h0
        go_enter Tryz.func57, Tryz.ntmps57
        go_wp2_with fail
        refine HP.out.mono ?_
        rintro e w1 ⟨⟨v, rfl, ho⟩, b1⟩
        obtain ⟨g, cap, rfl, _, _, _, _, hcs⟩ := ho
        have HC := hide (l9Has_any g _ cap _ t w1 rfl (by rw [List.length_map]; omega) (fun j hj => (hcs j hj).1))
        clear hcs h5
        obtain ⟨n, hn⟩ : ∃ n, ((tagsR s.data.toList).1.map bytesOf).length = n := ⟨_, rfl⟩
        rw [hn] at HC
        rw [hn]
        clear hn
        go_wp2_with fail
        refine HC.out.mono ?_
        rintro e w2 ⟨rfl, hw⟩
        obtain rfl := hw.symm
        go_wp2
        go_ret
        exact ⟨ret_bool (by rw [HR.out]; rfl), b1⟩
end Go.Proofs.YtfhcniifennfbaaGreatDoor
namespace Go.Proofs.YtfhcniifennfbaaGreatDoor
open Go.RowKit M
set_option linter.unusedVariables false

set_option maxHeartbeats 1000000 in
theorem noneOk_any (s t : ByteArray) (q : Bool) (w : World) (hs : s.size ≤ 1048576) :
    Calls Tryz.prog 138 #[.string s, .bool q, .string t] w fun e w' => e = .returned (.bool (!q || !namB s.data.toList t)) ∧ Below w.heap.size w w' := by
  have HN := hide (isNamed_any s t w hs)
  cases q
  · go_enter Tryz.func138, Tryz.ntmps138
    go_wp2
    go_ret
    exact ⟨ret_bool rfl, Below.refl _ _⟩
  · go_enter Tryz.func138, Tryz.ntmps138
    go_wp2_with fail
    refine HN.out.mono ?_
    rintro e w1 ⟨rfl, b1⟩
    go_wp2
    go_ret
    exact ⟨ret_bool rfl, b1⟩

set_option maxHeartbeats 2000000 in
theorem specNoneOk_any (s t : ByteArray) (q : Bool) (w : World) (hs : s.size ≤ 1048576) :
    Calls Tryz.prog 58 #[.string s, .bool q, .string t] w fun e w' => e = .returned (.bool (!q || !namB s.data.toList t)) ∧ Below w.heap.size w w' := by
  have HP := hide (specParseTags_any s w hs)
  unfold TagRet at HP
  have HST := star_iff s
  have h5 := tagsR_len9 s.data.toList
  cases hok : (tagsR s.data.toList).2
  · have HR := hide (namB_bad (t := t) hok)
    rw [hok] at HP
    clear hok h5
    go_enter Tryz.func58, Tryz.ntmps58
    go_wp2_with fail
    refine HP.out.mono ?_
    rintro e w1 ⟨⟨v, rfl, ho⟩, b1⟩
    clear ho HST
    go_wp2
    go_ret
    exact ⟨ret_bool (by rw [HR.out]; simp), b1⟩
  · rw [hok] at HP
    clear hok
    cases q
    · go_enter Tryz.func58, Tryz.ntmps58
      go_wp2_with fail
      refine HP.out.mono ?_
      rintro e w1 ⟨⟨v, rfl, ho⟩, b1⟩
      clear ho HST
      go_wp2
      go_ret
      exact ⟨ret_bool rfl, b1⟩
    · by_cases h0 : s.data.toList = [42]
      · have HR := hide (namB_star (t := t) h0)
        rw [decide_eq_true h0] at HST
        clear h0
        go_enter Tryz.func58, Tryz.ntmps58
        go_wp2_with fail
        refine HP.out.mono ?_
        rintro e w1 ⟨⟨v, rfl, ho⟩, b1⟩
        clear ho
        go_wp2
        go_ret
        exact ⟨ret_bool (by rw [HR.out]; rfl), b1⟩
      · have HR := hide (namB_not (t := t) h0)
        rw [decide_eq_false h0] at HST
        clear h0
        go_enter Tryz.func58, Tryz.ntmps58
        go_wp2_with fail
        refine HP.out.mono ?_
        rintro e w1 ⟨⟨v, rfl, ho⟩, b1⟩
        obtain ⟨g, cap, rfl, _, _, _, _, hcs⟩ := ho
        have HC := hide (l9Has_any g _ cap _ t w1 rfl (by rw [List.length_map]; omega) (fun j hj => (hcs j hj).1))
        clear hcs h5
        obtain ⟨n, hn⟩ : ∃ n, ((tagsR s.data.toList).1.map bytesOf).length = n := ⟨_, rfl⟩
        rw [hn] at HC
        rw [hn]
        clear hn
        go_wp2_with fail
        refine HC.out.mono ?_
        rintro e w2 ⟨rfl, hw⟩
        obtain rfl := hw.symm
        go_wp2
        go_ret
        exact ⟨ret_bool (by rw [HR.out]; rfl), b1⟩
end Go.Proofs.YtfhcniifennfbaaGreatDoor
namespace Go.Proofs.YtfhcniifennfbaaGreatDoor
open Go.RowKit M
set_option linter.unusedVariables false

set_option maxHeartbeats 400000 in
theorem above_any (b o : Nat) (ss : List ByteArray) (cap B : Nat) (w : World) (h : Strs w B (some ⟨b, o, none⟩) ss) (hB : B ≤ w.heap.size) (hl : ss.length ≤ 1048576) (hs : ∀ s ∈ ss, s.size ≤ 281474976710656) (hc : ss.length ≤ cap) (hc' : cap ≤ maxLen) :
    Calls Tryz.prog 196 #[.slice (some ⟨b, o, none⟩) ss.length cap] w fun e w' => e = .returned (.slice (some ⟨w.heap.size, 0, none⟩) (aboveL ss).length (aboveL ss).length) ∧ RowS w' w.heap.size (aboveL ss) ∧ Below w.heap.size w w' := by
  unfold maxLen at hc'
  have hC := fun cap => copyPath_any (some ⟨b, o, none⟩) (aboveL ss) cap B w (h.take _) hB (by rw [aboveL_len]; omega) (fun s hs' => hs s (List.mem_of_mem_take hs'))
  rw [aboveL_len] at hC ⊢
  by_cases h0 : ss.length = 0
  · have h1 : ss.length - 1 = 0 := by omega
    rw [h1] at hC ⊢
    rw [h0] at hc ⊢
    clear h1
    have HC := hide hC
    clear hC
    go_enter Tryz.func196, Tryz.ntmps196
    go_wp2_with fail
    refine (HC.out _).mono ?_
    rintro e w1 ⟨rfl, hR, hb⟩
    go_wp2
    go_ret
    exact ⟨rfl, hR, hb⟩
  · have HC := hide hC
    clear hC
    have e1 : (ss.length : Int) - 1 = ((ss.length - 1 : Nat) : Int) := by omega
    obtain ⟨n, hn⟩ : ∃ n, ss.length = n + 1 := ⟨ss.length - 1, by omega⟩
    rw [hn] at HC hc ⊢
    have HN := hide hn
    clear e1 h0 hn
    simp only [Nat.add_sub_cancel] at HC ⊢
    have hl2 : n + 1 ≤ 1048576 := by rw [← HN.out]; exact hl
    go_enter Tryz.func196, Tryz.ntmps196
    go_wp2_with fail
    refine (HC.out _).mono ?_
    rintro e w1 ⟨rfl, hR, hb⟩
    go_wp2
    go_ret
    exact ⟨rfl, hR, hb⟩
end Go.Proofs.YtfhcniifennfbaaGreatDoor
namespace Go.Proofs.YtfhcniifennfbaaGreatDoor
open Go.RowKit
set_option linter.unusedVariables false

theorem owns_rowS {w : World} {B g n cap : Nat} {ns : List ByteArray} (h : w.ownsRow B 9 1 (.slice (some ⟨g, 0, none⟩) n cap) n (strCells ns)) (hn : ns.length = n) : RowS w g ns ∧ B ≤ g ∧ n ≤ cap ∧ cap ≤ maxLen := by
  subst hn
  have hlt := h.lt g rfl
  have hcap : ns.length ≤ cap ∧ cap ≤ maxLen := by
    rcases h.2 with ⟨e, _⟩ | ⟨g', cap', cur, hv, _, _, h1, h2, _⟩
    · cases e
    · cases hv; exact ⟨h1, h2⟩
  refine ⟨⟨hlt.2, fun j hj => ⟨?_, h.frozenAt j⟩⟩, hlt.1, hcap.1, hcap.2⟩
  rw [h.cellAt j (by omega)]
  simp [strCells, List.getElem?_eq_getElem hj]

/-- The same texts, in a new row. -/
theorem wp_append_strs {w : World} {ops : Array Oper} {rest : List Oper} {o : Oper} {a : Act} {Q : Exit → Act → World → Prop} (hgd : o.guard = none) (s x : Operand)
    (ho : o.op = .call { callee := .builtin .append, args := #[s, x], argTypes := #[32, 32] })
    (B g0 : Nat) (l : List ByteArray) (n : Nat) (hn : n = l.length) (hs : a.eval s = .slice (some ⟨g0, 0, none⟩) 0 0) (hown : w.ownsRow B 9 1 (.slice (some ⟨g0, 0, none⟩) 0 0) 0 [])
    (C : Nat) (pa : Option Addr) (pc : Nat) (hx : a.eval x = .slice pa n pc) (hst : Strs w C pa l) (hpn : pa = none → pc = 0) (hlen : n ≤ 1099511627776) (hB : B ≤ w.heap.size)
    (h : ∀ g cap w', RowS w' g l → B ≤ g → n ≤ cap → cap ≤ maxLen → Below B w w' → wpList Tryz.prog ops Q rest (a.put o.dst (.slice (some ⟨g, 0, none⟩) n cap)) w') : wpList Tryz.prog ops Q (o :: rest) a w := by
  obtain ⟨i0, hi, hz0, hz1, hz2⟩ := info_parts info_str
  cases pa with
  | none =>
    have h0 : n = 0 := by
      rw [hn]
      by_cases e : 0 < l.length
      · obtain ⟨_, _, e', _⟩ := hst e; cases e'
      · omega
    have hl : l = [] := List.length_eq_zero_iff.1 (by omega)
    subst hl h0
    rw [hpn rfl] at hx
    have hr := run_append_owned_none (P := Tryz.prog) (w := w) B 32 o.type 9 i0 1 Tryz.underlying32 hi _ _ _ hown
    refine wpList_plain hgd fun K hK => ?_
    unfold Oper.wp execOp
    simp only [ho, resolve, invoke, builtin, Sem.run_bind, Sem.run_pure, Result.andThen_ok, List.map_toArray, List.map_cons, List.map_nil, hs, hx, hr]
    obtain ⟨r1, r2, r3, r4⟩ := owns_rowS (ns := []) (n := 0) hown rfl
    exact hK _ _ (h g0 0 w r1 r2 r3 r4 (Below.refl _ _))
  | some ad =>
    refine wpList_append_own w hgd s x 32 ho B 9 i0 (.string ByteArray.empty) 1 16 Tryz.underlying32 hi hz0 hz1 hz2 rfl (by decide) _ 0 _ hs hown ad n pc (strCells l) hx (by rw [strCells_length, hn, Nat.mul_one]) ?_ ?_ ?_ ?_ hB ?_
    · intro j u hj
      have hjl : j < l.length := by have := (List.getElem?_eq_some_iff.1 hj).1; rwa [strCells_length] at this
      obtain ⟨b, o', e, _, hc⟩ := hst (by omega)
      have e' : ad = ⟨b, o', none⟩ := by cases e; rfl
      subst e'
      have e2 : (⟨b, o', none⟩ : Addr).add j = ⟨b, o' + j, none⟩ := by unfold Addr.add; split <;> simp_all
      rw [e2, hc j hjl]
      unfold strCells at hj
      rw [List.getElem?_map, List.getElem?_eq_getElem hjl] at hj
      exact hj
    · intro u hu
      unfold strCells at hu
      obtain ⟨y, _, rfl⟩ := List.mem_map.1 hu
      rfl
    · unfold maxLen; omega
    · omega
    · intro v' w' ho' hg hnn
      rw [Nat.zero_add] at ho'
      obtain ⟨g, cap, rfl⟩ : ∃ g cap, v' = .slice (some ⟨g, 0, none⟩) n cap := by
        rcases ho'.2 with ⟨e, h0⟩ | ⟨g, cap, cur, hv, _⟩
        · have := (hnn.1 e).1; cases this
        · exact ⟨g, cap, hv⟩
      have ho2 : w'.ownsRow B 9 1 (.slice (some ⟨g, 0, none⟩) n cap) n (strCells l) := ho'
      obtain ⟨r1, r2, r3, r4⟩ := owns_rowS ho2 hn.symm
      exact h g cap w' r1 r2 r3 r4 (below_grown hown hB hg)
end Go.Proofs.YtfhcniifennfbaaGreatDoor
namespace Go.Proofs.YtfhcniifennfbaaGreatDoor
open Go.RowKit M
set_option linter.unusedVariables false

set_option maxHeartbeats 1000000 in
theorem specAboveT_any (b o : Nat) (ss : List ByteArray) (cap B : Nat) (w : World) (h : Strs w B (some ⟨b, o, none⟩) ss) (hB : B ≤ w.heap.size) (hl : ss.length ≤ 1048576) (h0 : 0 < ss.length) (hc : ss.length ≤ cap) (hc' : cap ≤ maxLen) :
    Calls Tryz.prog 91 #[.slice (some ⟨b, o, none⟩) ss.length cap] w fun e w' => (∃ g c, e = .returned (.slice (some ⟨g, 0, none⟩) (aboveL ss).length c) ∧ (aboveL ss).length ≤ c ∧ c ≤ maxLen ∧ RowS w' g (aboveL ss)) ∧ Below w.heap.size w w' := by
  unfold maxLen at hc'
  obtain ⟨n, hn⟩ : ∃ n, ss.length = n + 1 := ⟨ss.length - 1, by omega⟩
  have hn2 : n = (aboveL ss).length := by rw [aboveL_len, hn]; rfl
  have hst := h.take (ss.length - 1)
  have hst2 : Strs (w.alloc (Obj.cells #[] 9)) B (some ⟨b, o, none⟩) (aboveL ss) := hst.below ((Below.refl w.heap.size w).alloc (Nat.le_refl _) _) hB
  have HST := hide hst2
  rw [← hn2, hn]
  have hl2 : n + 1 ≤ 1048576 := by omega
  have hc2 : n + 1 ≤ cap := by omega
  have HN := hide hn2
  clear hn2 hn hst hst2 h0 h
  go_enter Tryz.func91, Tryz.ntmps91
  go_wp2_with (at_builtin; refine wp_append_strs rfl _ _ rfl w.heap.size _ (aboveL ss) n HN.out rfl (World.ownsRow_made w #[] 0 (Nat.le_refl _) (by decide) rfl) B (some ⟨b, o, none⟩) cap rfl HST.out (fun e => by cases e) (by omega) (by simp) ?_)
  intro g c w4 r4 hg h1 h2 b4
  have HB := hide (((Below.refl w.heap.size w).alloc (Nat.le_refl _) (Obj.cells #[] 9)).trans b4)
  clear b4
  go_wp2
  go_ret
  exact ⟨⟨g, c, rfl, h1, h2, r4⟩, HB.out⟩
end Go.Proofs.YtfhcniifennfbaaGreatDoor
namespace Go.Proofs.YtfhcniifennfbaaGreatDoor
open Go.RowKit M
set_option linter.unusedVariables false

set_option maxHeartbeats 400000 in
theorem specAbove_gen (p : List ByteArray) (u : Value) (W : World) (h : View W W.heap.size u (.l (p.map dS))) (hl : p.length ≤ 1048576) :
    Calls Tryz.prog 91 #[u] W fun e w' => (∃ r : Value, e = .returned r ∧ View w' w'.heap.size r (.l ((aboveL p).map dS))) ∧ Below W.heap.size W w' := by
  obtain ⟨a, cap, rfl, h1, h2, h3, h4⟩ := strs_of_view h
  by_cases h0 : p.length = 0
  · have he : aboveL p = [] := by rw [List.length_eq_zero_iff.1 h0]; rfl
    rw [he]
    rw [h0] at h1 ⊢
    clear h h3 h4
    go_enter Tryz.func91, Tryz.ntmps91
    go_wp2
    go_ret
    exact ⟨⟨_, rfl, .nil _ _ (fun e => by cases e) (by unfold maxLen; omega)⟩, (Below.refl _ _).alloc (Nat.le_refl _) _⟩
  · obtain ⟨b, o, rfl, hb, hc⟩ := h4 (by omega)
    refine (specAboveT_any b o p cap W.heap.size W h4 (Nat.le_refl _) hl (by omega) h1 h2).mono ?_
    rintro e w1 ⟨⟨g, c, rfl, k1, k2, k3⟩, b1⟩
    exact ⟨⟨_, rfl, view_of_strs (k3.strs' k3.1) k1 k2 (fun e => by cases e)⟩, b1⟩
set_option maxHeartbeats 400000 in
theorem above_gen (p : List ByteArray) (u : Value) (W : World) (h : View W W.heap.size u (.l (p.map dS))) (hl : p.length ≤ 1048576) (hs : ∀ s ∈ p, s.size ≤ 281474976710656) :
    Calls Tryz.prog 196 #[u] W fun e w' => e = .returned (.slice (some ⟨W.heap.size, 0, none⟩) (aboveL p).length (aboveL p).length) ∧ RowS w' W.heap.size (aboveL p) ∧ Below W.heap.size W w' := by
  obtain ⟨a, cap, rfl, h1, h2, h3, h4⟩ := strs_of_view h
  by_cases h0 : p.length = 0
  · have he : aboveL p = [] := by rw [List.length_eq_zero_iff.1 h0]; rfl
    rw [he]
    rw [h0] at h1 ⊢
    have HC := hide (fun (c : Nat) => copyPath_any a [] c W.heap.size W (fun h => absurd h (by simp)) (Nat.le_refl _) (by simp) (fun s hs' => by cases hs'))
    unfold maxLen at h2
    clear h h4
    cases a with
    | none =>
      obtain rfl := h3 rfl
      clear h3
      go_enter Tryz.func196, Tryz.ntmps196
      go_wp2_with fail
      refine (HC.out _).mono ?_
      rintro e w1 ⟨rfl, hR, hb⟩
      go_wp2
      go_ret
      exact ⟨rfl, hR, hb⟩
    | some ad =>
      clear h3
      go_enter Tryz.func196, Tryz.ntmps196
      go_wp2_with fail
      refine (HC.out _).mono ?_
      rintro e w1 ⟨rfl, hR, hb⟩
      go_wp2
      go_ret
      exact ⟨rfl, hR, hb⟩
  · obtain ⟨b, o, rfl, hb, hc⟩ := h4 (by omega)
    exact above_any b o p cap W.heap.size W h4 (Nat.le_refl _) hl hs h1 h2
theorem aboveV_gen (p : List ByteArray) (u : Value) (W : World) (h : View W W.heap.size u (.l (p.map dS))) (hl : p.length ≤ 1048576) (hs : ∀ s ∈ p, s.size ≤ 281474976710656) :
    Calls Tryz.prog 196 #[u] W fun e w' => (∃ r : Value, e = .returned r ∧ View w' w'.heap.size r (.l ((aboveL p).map dS))) ∧ Below W.heap.size W w' := by
  refine (above_gen p u W h hl hs).mono ?_
  rintro e w1 ⟨rfl, hr, hb⟩
  have h9 : (aboveL p).length ≤ maxLen := by rw [aboveL_len]; unfold maxLen; omega
  exact ⟨⟨_, rfl, view_of_strs (hr.strs' hr.1) (Nat.le_refl _) h9 (fun e => by cases e)⟩, hb⟩
end Go.Proofs.YtfhcniifennfbaaGreatDoor
namespace Go.Proofs.YtfhcniifennfbaaGreatDoor
open Go.RowKit M
set_option linter.unusedVariables false

set_option maxRecDepth 100000 in
set_option maxHeartbeats 4000000 in
theorem indexO_any (fn : Nat) (hE : ∀ args w, (callFunc fn args).run Tryz.prog w = .ok (.enter fn args) w) (cp : Array Value) (P : Lk → Bool) (a : Option Addr) (l : List Lk) (cap B : Nat) (w : World) (h : Lks w B a l) (hB : B ≤ w.heap.size) (hl : l.length ≤ 1048577)
    (hP : ∀ k (hk : k < l.length) pa pc W, Below w.heap.size w W → LkIn W B l[k] pa pc → Calls Tryz.prog fn (#[.agg #[.int .i64 l[k].tk, .slice pa l[k].pa.length pc, .bool l[k].de, .bool l[k].sh, .int .i64 l[k].un]] ++ cp) W fun e w' => e = .returned (.bool (P l[k])) ∧ Below W.heap.size W w') :
    Calls Tryz.prog 232 #[.slice a l.length cap, .func (.func fn) #[] cp] w fun e w' => (∃ z : Int, e = .returned (.int .i64 z) ∧ placeB P l z) ∧ Below w.heap.size w w' := by
  have HH := hide h
  have HP := hide hP
  have HE := hide hE
  clear h hP hE
  go_enter Tryz.func232, Tryz.ntmps232
  go_wp2
  go_loopw [8] (fun i wr => ∃ k : Nat, k ≤ l.length ∧ i = .int .i64 k ∧ Hid (∀ j (hj : j < l.length), j < k → P l[j] = false) ∧ Below w.heap.size w wr) (fun i _ => l.length - (intOf i).toNat)
  case atStart => exact ⟨0, Nat.zero_le _, rfl, fun j _ hj => absurd hj (Nat.not_lt_zero _), Below.refl _ _⟩
  case round =>
    obtain ⟨k, hk, rfl, HN, hbe⟩ := hrel
    by_cases hlt : k < l.length
    · obtain ⟨b, o, rfl, hb, hc⟩ := (HH.out.below hbe hB) (by omega)
      obtain ⟨pa, pc, ⟨hc0, hc1, hc2, hc3, hc4⟩, hin⟩ := hc k hlt
      have HC := hide (HP.out k hlt pa pc wr hbe hin)
      obtain ⟨z, hz⟩ : ∃ z, P l[k] = z := ⟨_, rfl⟩
      rw [hz] at HC
      have HZ := hide hz
      clear hz hc hin
      go_wp2_with fail
      rw [HE.out, Oper.upon_enter]
      refine HC.out.mono ?_
      rintro e w1 ⟨rfl, b1⟩
      have c1 := hbe.trans (b1.mono hbe.size)
      clear b1 HC hc0 hc1 hc2 hc3 hc4
      cases z
      · go_wp2
        go_roundw
        case rel => exact ⟨k + 1, by omega, by go_num, fun j hj hjk => if e : j = k then by subst e; exact HZ.out else HN.out j hj (by omega), c1⟩
        case measure => simp [intOf]; omega
      · go_wp2
        go_ret
        exact ⟨⟨_, rfl, .inr ⟨k, rfl, hlt, HZ.out, HN.out⟩⟩, c1⟩
    · go_wp2
      go_ret
      exact ⟨⟨_, rfl, .inl ⟨rfl, any_none (fun j hj => HN.out j hj (by omega))⟩⟩, hbe⟩


theorem any_lk {P : Lk → Bool} (l : List Lk) : (l.filter P).length = 0 ↔ l.any P = false := by
  rw [List.length_eq_zero_iff, List.filter_eq_nil_iff, Bool.eq_false_iff, ne_eq, List.any_eq_true]
  exact ⟨fun h ⟨x, hx, hp⟩ => h x hx hp, fun h x hx hp => h ⟨x, hx, hp⟩⟩

set_option maxHeartbeats 1000000 in
theorem containsO_any (fn : Nat) (hE : ∀ args w, (callFunc fn args).run Tryz.prog w = .ok (.enter fn args) w) (cp : Array Value) (P : Lk → Bool) (a : Option Addr) (l : List Lk) (cap B : Nat) (w : World) (h : Lks w B a l) (hB : B ≤ w.heap.size) (hl : l.length ≤ 1048577)
    (hP : ∀ k (hk : k < l.length) pa pc W, Below w.heap.size w W → LkIn W B l[k] pa pc → Calls Tryz.prog fn (#[.agg #[.int .i64 l[k].tk, .slice pa l[k].pa.length pc, .bool l[k].de, .bool l[k].sh, .int .i64 l[k].un]] ++ cp) W fun e w' => e = .returned (.bool (P l[k])) ∧ Below W.heap.size W w') :
    Calls Tryz.prog 205 #[.slice a l.length cap, .func (.func fn) #[] cp] w fun e w' => e = .returned (.bool (l.any P)) ∧ Below w.heap.size w w' := by
  have HQ := hide (indexO_any fn hE cp P a l cap B w h hB hl hP)
  clear h hP hE
  go_enter Tryz.func205, Tryz.ntmps205
  go_wp2_with fail
  refine HQ.out.mono ?_
  rintro e w1 ⟨⟨z, rfl, hz⟩, b1⟩
  have HZ := hide (placeB_any hz)
  have HB := hide b1
  clear hz b1
  go_wp2
  go_ret
  exact ⟨by rw [← HZ.out]; rfl, HB.out⟩

set_option maxHeartbeats 1000000 in
theorem heldFn_any (r : Lk) (pa : Option Addr) (pc N : Nat) (C : Nat) (ta : Option Addr) (toks : List Int) (tc : Nat) (w : World) (h : w.cell? ⟨N, 0, none⟩ = some (.slice ta toks.length tc)) (ht : Ints w C ta toks) (hC : C ≤ w.heap.size) (hl : toks.length ≤ 1048576) :
    Calls Tryz.prog 200 #[.agg #[.int .i64 r.tk, .slice pa r.pa.length pc, .bool r.de, .bool r.sh, .int .i64 r.un], .pointer (some ⟨N, 0, none⟩)] w fun e w' => e = .returned (.bool (hasTk toks r)) ∧ Below w.heap.size w w' := by
  have hb := (Below.refl w.heap.size w).alloc (Nat.le_refl _) (Obj.cells #[.int .i64 r.tk, .slice pa r.pa.length pc, .bool r.de, .bool r.sh, .int .i64 r.un] 110)
  have hN : N < w.heap.size := World.block_lt_of_cell? w _ h
  have h1 := (hb.cell (p := ⟨N, 0, none⟩) hN).trans h
  have HQ := hide (containsI_any ta toks tc C r.tk _ (ht.below hb hC) hl)
  have HB := hide hb
  clear hb ht h
  go_enter Tryz.func200, Tryz.ntmps200
  go_wp2_with fail
  refine HQ.out.mono ?_
  rintro e w1 ⟨rfl, hw⟩
  obtain rfl := hw.symm
  clear HQ hw
  go_wp2
  go_ret
  exact ⟨rfl, HB.out⟩

set_option maxHeartbeats 1000000 in
theorem sharedFn_any (r : Lk) (pa : Option Addr) (pc : Nat) (w : World) :
    Calls Tryz.prog 203 #[.agg #[.int .i64 r.tk, .slice pa r.pa.length pc, .bool r.de, .bool r.sh, .int .i64 r.un]] w fun e w' => e = .returned (.bool r.sh) ∧ Below w.heap.size w w' := by
  have HB := hide ((Below.refl w.heap.size w).alloc (Nat.le_refl _) (Obj.cells #[.int .i64 r.tk, .slice pa r.pa.length pc, .bool r.de, .bool r.sh, .int .i64 r.un] 110))
  go_enter Tryz.func203, Tryz.ntmps203
  go_wp2
  go_ret
  exact ⟨rfl, HB.out⟩

set_option maxHeartbeats 2000000 in
theorem missFn_any (r : Lk) (pa : Option Addr) (pc N M C : Nat) (ta : Option Addr) (toks : List Int) (tc : Nat) (w : World) (hM : w.cell? ⟨M, 0, none⟩ = some (.func (.func 200) #[] #[.pointer (some ⟨N, 0, none⟩)])) (h : w.cell? ⟨N, 0, none⟩ = some (.slice ta toks.length tc)) (ht : Ints w C ta toks) (hC : C ≤ w.heap.size) (hl : toks.length ≤ 1048576) :
    Calls Tryz.prog 204 #[.agg #[.int .i64 r.tk, .slice pa r.pa.length pc, .bool r.de, .bool r.sh, .int .i64 r.un], .pointer (some ⟨M, 0, none⟩)] w fun e w' => e = .returned (.bool (!r.sh && !hasTk toks r)) ∧ Below w.heap.size w w' := by
  have hb := (Below.refl w.heap.size w).alloc (Nat.le_refl _) (Obj.cells #[.int .i64 r.tk, .slice pa r.pa.length pc, .bool r.de, .bool r.sh, .int .i64 r.un] 110)
  have hN : N < w.heap.size := World.block_lt_of_cell? w _ h
  have hM2 : M < w.heap.size := World.block_lt_of_cell? w _ hM
  have h1 := (hb.cell (p := ⟨N, 0, none⟩) hN).trans h
  have h2 := (hb.cell (p := ⟨M, 0, none⟩) hM2).trans hM
  have HQ := hide (heldFn_any r pa pc N C ta toks tc _ h1 (ht.below hb hC) (Nat.le_trans hC hb.size) hl)
  have HB := hide hb
  clear hb ht h h1 hM
  obtain ⟨tk, tt, de, sh, un⟩ := r
  simp only at *
  generalize hasTk toks ⟨tk, tt, de, sh, un⟩ = hs at *
  cases sh
  · go_enter Tryz.func204, Tryz.ntmps204
    go_wp2_with fail
    refine HQ.out.mono ?_
    rintro e w1 ⟨rfl, b1⟩
    have HC1 := hide (HB.out.trans (b1.mono HB.out.size))
    clear b1 HQ h2
    go_wp2
    go_ret
    exact ⟨rfl, HC1.out⟩
  · go_enter Tryz.func204, Tryz.ntmps204
    clear HQ h2
    go_wp2
    go_ret
    exact ⟨rfl, HB.out⟩

set_option maxHeartbeats 2000000 in
theorem touchFn_any (r : Lk) (pa : Option Addr) (pc N M B C : Nat) (qa : Option Addr) (q : List ByteArray) (qc : Nat) (deep : Bool) (w : World) (h : w.cell? ⟨N, 0, none⟩ = some (.slice qa q.length qc)) (hM : w.cell? ⟨M, 0, none⟩ = some (.bool deep)) (hin : LkIn w B r pa pc) (hB : B ≤ w.heap.size) (hq : Strs w C qa q) (hC : C ≤ w.heap.size) (h1 : q.length ≤ qc) (h2 : qc ≤ maxLen) :
    Calls Tryz.prog 231 #[.agg #[.int .i64 r.tk, .slice pa r.pa.length pc, .bool r.de, .bool r.sh, .int .i64 r.un], .pointer (some ⟨N, 0, none⟩), .pointer (some ⟨M, 0, none⟩)] w fun e w' => e = .returned (.bool (touchB q deep r)) ∧ Below w.heap.size w w' := by
  have hb := (Below.refl w.heap.size w).alloc (Nat.le_refl _) (Obj.cells #[.int .i64 r.tk, .slice pa r.pa.length pc, .bool r.de, .bool r.sh, .int .i64 r.un] 110)
  have hN : N < w.heap.size := World.block_lt_of_cell? w _ h
  have hM2 : M < w.heap.size := World.block_lt_of_cell? w _ hM
  have c1 := (hb.cell (p := ⟨N, 0, none⟩) hN).trans h
  have c2 := (hb.cell (p := ⟨M, 0, none⟩) hM2).trans hM
  have HQ := hide (covers_any r pa pc qa q qc B C _ (hin.below hb hB) (Nat.le_trans hB hb.size) (hq.below hb hC) (Nat.le_trans hC hb.size) h1 h2)
  have HU := hide (fun w1 (hb1 : Below w.heap.size w w1) => under_any pa qa r.pa q pc qc B C w1 (hin.ph.below hb1 hB) (hq.below hb1 hC) hin.len (Nat.le_trans h1 h2) hin.pl hin.pm)
  have HX := hide (BoxV.made w [.int .i64 r.tk, .slice pa r.pa.length pc, .bool r.de, .bool r.sh, .int .i64 r.un] 110)
  have HB := hide hb
  have hsz : (w.alloc (Obj.cells #[.int .i64 r.tk, .slice pa r.pa.length pc, .bool r.de, .bool r.sh, .int .i64 r.un] 110)).heap.size = w.heap.size + 1 := by simp
  have HSZ := hide hsz
  have HT := hide (show touchB q deep r = (covB r q || (deep && underB r.pa q)) from rfl)
  clear hb hin hq h hM hsz
  generalize touchB q deep r = tb at *
  generalize covB r q = cv at *
  generalize underB r.pa q = un2 at *
  have hT := HT.out
  clear HT
  go_enter Tryz.func231, Tryz.ntmps231
  go_wp2_with fail
  refine HQ.out.mono ?_
  rintro e w1 ⟨rfl, b1⟩
  have HC1 := hide (HB.out.trans (b1.mono HB.out.size))
  have d1 := (b1.cell (p := ⟨N, 0, none⟩) (Nat.lt_of_lt_of_le hN HB.out.size)).trans c1
  have d2 := (b1.cell (p := ⟨M, 0, none⟩) (Nat.lt_of_lt_of_le hM2 HB.out.size)).trans c2
  have hx := (HX.out.next b1).2 1 _ rfl
  have hx1 := hx.1
  have HU1 := hide (HU.out w1 HC1.out)
  clear b1 HQ c1 c2 hx HU
  cases cv
  · cases deep
    · simp only [Bool.false_and, Bool.or_self] at hT
      subst hT
      go_wp2
      go_ret
      exact ⟨rfl, HC1.out⟩
    · simp only [Bool.true_and, Bool.false_or] at hT
      subst hT
      go_wp2_with fail
      refine HU1.out.mono ?_
      rintro e w2 ⟨rfl, b2⟩
      have HC2 := hide (HC1.out.trans (b2 _))
      clear b2
      go_wp2
      go_ret
      exact ⟨rfl, HC2.out⟩
  · simp only [Bool.true_or] at hT
    subst hT
    go_wp2
    go_ret
    exact ⟨rfl, HC1.out⟩

set_option maxHeartbeats 2000000 in
theorem touching_any (a : Option Addr) (l : List Lk) (cap B : Nat) (qa : Option Addr) (q : List ByteArray) (qc C : Nat) (deep : Bool) (w : World) (h : Lks w B a l) (hB : B ≤ w.heap.size) (hq : Strs w C qa q) (hC : C ≤ w.heap.size) (h1 : q.length ≤ qc) (h2 : qc ≤ maxLen) (hl : l.length ≤ 1048576) :
    Calls Tryz.prog 202 #[.slice a l.length cap, .slice qa q.length qc, .bool deep] w fun e w' => (∃ (g n c : Nat) (ts : List LkT), e = .returned (.slice (some ⟨g, 0, none⟩) n c) ∧ n = ts.length ∧ n ≤ c ∧ c ≤ maxLen ∧ g < w'.heap.size ∧ ts.map (·.r) = l.filter (touchB q deep) ∧ RowV w' g ts ∧ InV w' B ts) ∧ Below w.heap.size w w' := by
  have hmf : ∀ (fn : Fn) (first cap : Array Value) (w : World), (Instr.makeFunc fn first cap).run Tryz.prog w = .ok (.func fn first cap) w := fun _ _ _ _ => rfl
  have hb0 := ((Below.refl w.heap.size w).alloc (Nat.le_refl _) (Obj.cells #[.slice qa q.length qc] 32)).alloc (by simp) (Obj.cells #[.bool deep] 4)
  have hc1 : ((w.alloc (Obj.cells #[.slice qa q.length qc] 32)).alloc (Obj.cells #[.bool deep] 4)).cell? ⟨w.heap.size, 0, none⟩ = some (.slice qa q.length qc) := by simp
  have hc2 : ((w.alloc (Obj.cells #[.slice qa q.length qc] 32)).alloc (Obj.cells #[.bool deep] 4)).cell? ⟨w.heap.size + 1, 0, none⟩ = some (.bool deep) := by simp
  have HT := hide (those_any 231 (fun args w => enter_fn Tryz.func231 (by kernel_rfl) rfl args w) #[.pointer (some ⟨w.heap.size, 0, none⟩), .pointer (some ⟨w.heap.size + 1, 0, none⟩)] (touchB q deep) a l cap B _ (h.below hb0 hB) (Nat.le_trans hB hb0.size) (by omega) (fun k hk pa pc W hW hin => touchFn_any l[k] pa pc w.heap.size (w.heap.size + 1) B C qa q qc deep W ((hW.cell (p := ⟨w.heap.size, 0, none⟩) (by simp; try omega)).trans hc1) ((hW.cell (p := ⟨w.heap.size + 1, 0, none⟩) (by simp; try omega)).trans hc2) hin (Nat.le_trans (Nat.le_trans hB hb0.size) hW.size) ((hq.below hb0 hC).below hW (Nat.le_trans hC hb0.size)) (Nat.le_trans (Nat.le_trans hC hb0.size) hW.size) h1 h2))
  have HB0 := hide hb0
  clear hb0 hc1 hc2 h hq h1 h2
  go_enter Tryz.func202, Tryz.ntmps202
  go_wp2_with fail
  refine HT.out.mono ?_
  rintro e w1 ⟨⟨g, n, c, ts, rfl, hn, hc1, hc2, hg, hgl, hts, hrow, hin⟩, b1⟩
  have HC1 := hide (HB0.out.trans (b1.mono HB0.out.size))
  have HF := hide (And.intro hn (And.intro hc1 (And.intro hc2 (And.intro hgl (And.intro hts (And.intro hrow hin))))))
  clear hn hc1 hc2 hg hgl hts hrow hin b1 HT
  go_wp2
  go_ret
  exact ⟨⟨g, n, c, ts, rfl, HF.out⟩, HC1.out⟩
end Go.Proofs.YtfhcniifennfbaaGreatDoor
namespace Go.Proofs.YtfhcniifennfbaaGreatDoor
open Go.RowKit M
set_option linter.unusedVariables false

theorem dec_lk {P : Lk → Bool} (m : List Lk) : decide ((m.filter P).length = 0) = !(m.any P) := by
  cases h : m.any P with
  | false => rw [decide_eq_true ((any_lk m).2 h)]; rfl
  | true => rw [decide_eq_false (fun e => by rw [(any_lk m).1 e] at h; cases h)]; rfl
theorem all_lk (toks : List Int) (m : List Lk) : m.all (fun x => x.sh || hasTk toks x) = !(m.any fun x => !x.sh && !hasTk toks x) := by
  induction m with
  | nil => rfl
  | cons x r ih => simp only [List.all_cons, List.any_cons, ih, Bool.not_or, Bool.not_and, Bool.not_not]
theorem may_eq (l : List Lk) (q : List ByteArray) (deep : Bool) (toks : List Int) : mayB l q deep toks = (decide (((l.filter (touchB q deep)).filter fun x => !x.sh && !hasTk toks x).length = 0) && (decide (((l.filter (touchB q deep)).filter fun x => x.sh).length = 0) || ((l.filter (touchB q deep)).filter fun x => x.sh).any (hasTk toks))) := by
  unfold mayB
  generalize l.filter (touchB q deep) = m
  rw [dec_lk, dec_lk, all_lk, List.any_filter]

set_option maxRecDepth 100000 in
set_option maxHeartbeats 4000000 in
theorem mayTurn_any (a : Option Addr) (l : List Lk) (cap B : Nat) (qa : Option Addr) (q : List ByteArray) (qc C : Nat) (deep : Bool) (ta : Option Addr) (toks : List Int) (tc D : Nat) (w : World) (h : Lks w B a l) (hB : B ≤ w.heap.size) (hq : Strs w C qa q) (hC : C ≤ w.heap.size) (ht : Ints w D ta toks) (hD : D ≤ w.heap.size) (h1 : q.length ≤ qc) (h2 : qc ≤ maxLen) (hl : l.length ≤ 1048576) (htl : toks.length ≤ 1048576) :
    Calls Tryz.prog 171 #[.slice a l.length cap, .slice qa q.length qc, .bool deep, .slice ta toks.length tc] w fun e w' => e = .returned (.bool (mayB l q deep toks)) ∧ Below w.heap.size w w' := by
  have hmf : ∀ (fn : Fn) (first cap : Array Value) (w : World), (Instr.makeFunc fn first cap).run Tryz.prog w = .ok (.func fn first cap) w := fun _ _ _ _ => rfl
  obtain ⟨W2, hW2⟩ : ∃ W, ((w.alloc (Obj.cells #[.slice ta toks.length tc] 24)).alloc (Obj.cells #[.nilFunc] 199)).setCell ⟨w.heap.size + 1, 0, none⟩ (.func (.func 200) #[] #[.pointer (some ⟨w.heap.size, 0, none⟩)]) = W := ⟨_, rfl⟩
  have hst : (store ⟨w.heap.size + 1, 0, none⟩ (.func (.func 200) #[] #[.pointer (some ⟨w.heap.size, 0, none⟩)])).run Tryz.prog ((w.alloc (Obj.cells #[.slice ta toks.length tc] 24)).alloc (Obj.cells #[.nilFunc] 199)) = .ok () W2 := by
    rw [run_store _ _ _ _ _ rfl, ← hW2]
    simp
  have hb0 : Below w.heap.size w W2 := by rw [← hW2]; refine Below.setCell (Below.alloc (Below.alloc (Below.refl w.heap.size w) (Nat.le_refl _) _) ?_ _) ?_ _ <;> simp
  have hc1 : W2.cell? ⟨w.heap.size, 0, none⟩ = some (.slice ta toks.length tc) := by rw [← hW2]; simp [go_sem]
  have hc2 : W2.cell? ⟨w.heap.size + 1, 0, none⟩ = some (.func (.func 200) #[] #[.pointer (some ⟨w.heap.size, 0, none⟩)]) := by rw [← hW2]; simp [go_sem]
  have hz2 : W2.heap.size = w.heap.size + 2 := by rw [← hW2]; simp
  clear hW2
  have HM := hide (may_eq l q deep toks)
  have HQ := hide (touching_any a l cap B qa q qc C deep W2 (h.below hb0 hB) (Nat.le_trans hB hb0.size) (hq.below hb0 hC) (Nat.le_trans hC hb0.size) h1 h2 hl)
  have HC := hide (And.intro hc1 (And.intro hc2 (And.intro hz2 hb0)))
  have HT := hide ht
  clear hb0 hc1 hc2 hz2 h hq h1 h2 ht
  go_enter Tryz.func171, Tryz.ntmps171
  go_wp2_with fail
  clear hst
  refine HQ.out.mono ?_
  rintro e w1 ⟨⟨g, n, c, ts, rfl, hn, hc1, hc2, hgl, hts, hrow, hin⟩, b1⟩
  have HC1 := hide (HC.out.2.2.2.trans (b1.mono HC.out.2.2.2.size))
  have e1 := (b1.cell (p := ⟨w.heap.size, 0, none⟩) (by have := HC.out.2.2.1; simp; omega)).trans HC.out.1
  have e2 := (b1.cell (p := ⟨w.heap.size + 1, 0, none⟩) (by have := HC.out.2.2.1; simp; omega)).trans HC.out.2.1
  have HE1 := hide (And.intro e1 e2)
  have hz1 : w.heap.size + 2 ≤ w1.heap.size := by have := HC.out.2.2.1; have := b1.size; omega
  have hln : n = (l.filter (touchB q deep)).length := by rw [hn, ← hts, List.length_map]
  have hle := List.length_filter_le (touchB q deep) l
  have HLN := hide hln
  have HLK := hide (lks_of_rowV hts hrow hin (Nat.le_trans (Nat.le_trans hB HC.out.2.2.2.size) b1.size))
  have hnl : n ≤ 1048576 := by omega
  clear hln e1 e2 hn hc1 hc2 hgl hts hrow hin b1 HQ HC
  obtain ⟨m, hm⟩ : ∃ m, l.filter (touchB q deep) = m := ⟨_, rfl⟩
  rw [hm] at HLK HLN HM hle
  clear hm
  clear hle
  have HQS := those_any 203 (fun args w => enter_fn Tryz.func203 (by kernel_rfl) rfl args w) #[] (fun x => x.sh) (some ⟨g, 0, none⟩) m c w1.heap.size w1 HLK.out (Nat.le_refl _) (by have := HLN.out; omega) (fun k hk pa pc W hW hin => by simpa using sharedFn_any m[k] pa pc W)
  rw [← HLN.out] at HQS
  replace HQS := hide HQS
  go_wp2_with fail
  refine HQS.out.mono ?_
  rintro e w2 ⟨⟨g2, n2, c2, ts2, rfl, hn2, hc21, hc22, hg2, hgl2, hts2, hrow2, hin2⟩, b2⟩
  have HC2 := hide (HC1.out.trans (b2.mono HC1.out.size))
  have HE2 := hide (And.intro ((b2.cell (p := ⟨w.heap.size, 0, none⟩) (by show w.heap.size < _; omega)).trans HE1.out.1) ((b2.cell (p := ⟨w.heap.size + 1, 0, none⟩) (by show w.heap.size + 1 < _; omega)).trans HE1.out.2))
  have hln2 : n2 = (m.filter (fun x => x.sh)).length := by rw [hn2, ← hts2, List.length_map]
  have hle2 := List.length_filter_le (fun x : Lk => x.sh) m
  have hml : m.length ≤ 1048576 := by have := HLN.out; omega
  have HLN2 := hide hln2
  have HLK2 := hide (lks_of_rowV hts2 hrow2 hin2 b2.size)
  have HLKm := hide (HLK.out.below b2 (Nat.le_refl _))
  have hz2 := b2.size
  have hn2l : n2 ≤ 1048576 := by omega
  clear hml hle2 hln2 hn2 hc21 hc22 hg2 hgl2 hts2 hrow2 hin2 b2 HQS HE1 HC1 HLK
  have HQM := those_any 204 (fun args w => enter_fn Tryz.func204 (by kernel_rfl) rfl args w) #[.pointer (some ⟨w.heap.size + 1, 0, none⟩)] (fun x => !x.sh && !hasTk toks x) (some ⟨g, 0, none⟩) m c w1.heap.size w2 HLKm.out hz2 (by have := HLN.out; omega) (fun k hk pa pc W hW hin => missFn_any m[k] pa pc w.heap.size (w.heap.size + 1) D ta toks tc W ((hW.cell (p := ⟨w.heap.size + 1, 0, none⟩) (by show w.heap.size + 1 < _; omega)).trans HE2.out.2) ((hW.cell (p := ⟨w.heap.size, 0, none⟩) (by show w.heap.size < _; omega)).trans HE2.out.1) ((HT.out.below HC2.out hD).below hW (by omega)) (by have := hW.size; omega) htl)
  rw [← HLN.out] at HQM
  replace HQM := hide HQM
  go_wp2_with fail
  refine HQM.out.mono ?_
  rintro e w3 ⟨⟨g3, n3, c3, ts3, rfl, hn3, hc31, hc32, hg3, hgl3, hts3, hrow3, hin3⟩, b3⟩
  have HC3 := hide (HC2.out.trans (b3.mono HC2.out.size))
  have e1 := (b3.cell (p := ⟨w.heap.size, 0, none⟩) (by show w.heap.size < _; omega)).trans HE2.out.1
  have e2 := (b3.cell (p := ⟨w.heap.size + 1, 0, none⟩) (by show w.heap.size + 1 < _; omega)).trans HE2.out.2
  have hln3 : n3 = (m.filter (fun x => !x.sh && !hasTk toks x)).length := by rw [hn3, ← hts3, List.length_map]
  have HE1 := hide e1
  have HLK3 := hide (HLK2.out.below b3 (Nat.le_refl _))
  have hz3 := b3.size
  obtain ⟨M2, hM2⟩ : ∃ M, m.filter (fun x => x.sh) = M := ⟨_, rfl⟩
  rw [hM2] at HLK3 HLN2 HM
  clear hM2
  have HQH := containsO_any 200 (fun args w => enter_fn Tryz.func200 (by kernel_rfl) rfl args w) #[.pointer (some ⟨w.heap.size, 0, none⟩)] (hasTk toks) (some ⟨g2, 0, none⟩) M2 c2 w2.heap.size w3 HLK3.out hz3 (by have := HLN2.out; omega) (fun k hk pa pc W hW hin => heldFn_any _ pa pc w.heap.size D ta toks tc W ((hW.cell (p := ⟨w.heap.size, 0, none⟩) (by show w.heap.size < _; omega)).trans HE1.out) ((HT.out.below HC3.out hD).below hW (by omega)) (by have := hW.size; omega) htl)
  rw [← HLN2.out] at HQH
  replace HQH := hide HQH
  rw [← hln3, ← HLN2.out] at HM
  obtain ⟨z, hz⟩ : ∃ z, M2.any (hasTk toks) = z := ⟨_, rfl⟩
  rw [hz] at HM HQH
  clear hn3 hc31 hc32 hg3 hgl3 hts3 hrow3 hin3 b3 HQM HE1 HE2 HLK2 HLK3 HLKm HC2 hz e1 hln3 HLN HLN2
  by_cases h3 : n3 = 0
  · by_cases h2 : n2 = 0
    · rw [decide_eq_true h3, decide_eq_true h2] at HM
      have i3 : (n3 : Int) = 0 := by omega
      have i2 : (n2 : Int) = 0 := by omega
      clear HQH h3 h2
      go_wp2
      go_ret
      exact ⟨by rw [HM.out]; rfl, HC3.out⟩
    · rw [decide_eq_true h3, decide_eq_false h2] at HM
      have i3 : (n3 : Int) = 0 := by omega
      have i2 : ¬ (n2 : Int) = 0 := by omega
      have HB2 := hide (show ((n2 : Int) == 0) = false by simpa using h2)
      clear h3 h2
      go_wp2_with fail
      refine HQH.out.mono ?_
      rintro e w4 ⟨rfl, b4⟩
      have HC4 := hide (HC3.out.trans (b4.mono HC3.out.size))
      clear b4 HQH e2
      go_wp2
      go_ret
      exact ⟨by first | (rw [HM.out]; rfl) | (rw [HM.out, ← HB2.out]; rfl), HC4.out⟩
  · rw [decide_eq_false h3] at HM
    have i3 : ¬ (n3 : Int) = 0 := by omega
    clear HQH h3
    go_wp2
    go_ret
    exact ⟨by rw [HM.out]; rfl, HC3.out⟩
end Go.Proofs.YtfhcniifennfbaaGreatDoor
namespace Go.Proofs.YtfhcniifennfbaaGreatDoor
open Go.RowKit M
set_option linter.unusedVariables false

/-- What the looks at a beginning have told: one Shared, one Shared whose Token is there, none that is missing. -/
def mayS (p : List ByteArray) (deep : Bool) (toks : List Int) (m : List Lk) (s d : Bool) : Prop :=
  (m.filter (touchB p deep)).any (·.sh) = s ∧ (m.filter (touchB p deep)).any (fun x => x.sh && hasTk toks x) = d ∧ (m.filter (touchB p deep)).all (fun x => x.sh || hasTk toks x) = true
theorem mayS_not {p : List ByteArray} {deep : Bool} {toks : List Int} {m : List Lk} {s d : Bool} {x : Lk} (h : mayS p deep toks m s d) (hx : touchB p deep x = false) : mayS p deep toks (m ++ [x]) s d := by
  unfold mayS at *
  rw [List.filter_append, List.filter_cons, hx]
  simpa using h
theorem mayS_yes {p : List ByteArray} {deep : Bool} {toks : List Int} {m : List Lk} {s d : Bool} {x : Lk} (h : mayS p deep toks m s d) (hx : touchB p deep x = true) (hy : (x.sh || hasTk toks x) = true) : mayS p deep toks (m ++ [x]) (s || x.sh) (d || (x.sh && hasTk toks x)) := by
  obtain ⟨h1, h2, h3⟩ := h
  refine ⟨?_, ?_, ?_⟩
  · rw [List.filter_append, List.filter_cons, hx, List.any_append, h1]; simp
  · rw [List.filter_append, List.filter_cons, hx, List.any_append, h2]; simp
  · rw [List.filter_append, List.filter_cons, hx, List.all_append, h3]; simpa using hy
theorem may_no {l : List Lk} {p : List ByteArray} {deep : Bool} {toks : List Int} {k : Nat} (hk : k < l.length) (hx : touchB p deep l[k] = true) (hy : (l[k].sh || hasTk toks l[k]) = false) : mayB l p deep toks = false := by
  unfold mayB
  rw [Bool.and_eq_false_iff]
  left
  rw [List.all_eq_false]
  exact ⟨l[k], List.mem_filter.2 ⟨List.getElem_mem hk, hx⟩, by rw [hy]; simp⟩
theorem may_end {l : List Lk} {p : List ByteArray} {deep : Bool} {toks : List Int} {s d : Bool} (h : mayS p deep toks l s d) : mayB l p deep toks = (!s || d) := by
  unfold mayB
  rw [h.1, h.2.1, h.2.2, Bool.true_and]

set_option maxRecDepth 100000 in
set_option maxHeartbeats 8000000 in
theorem specMay_any (a : Option Addr) (l : List Lk) (cap B : Nat) (pp : Option Addr) (p : List ByteArray) (pc C : Nat) (deep : Bool) (ta : Option Addr) (toks : List Int) (tc D : Nat) (w : World) (h : Lks w B a l) (hB : B ≤ w.heap.size) (h' : Strs w C pp p) (hC : C ≤ w.heap.size) (ht : Ints w D ta toks) (hD : D ≤ w.heap.size) (hl : l.length ≤ 1048576) (hpl : p.length ≤ pc) (hpm : pc ≤ maxLen) (htl : toks.length ≤ 1048576) :
    Calls Tryz.prog 59 #[.slice a l.length cap, .slice pp p.length pc, .bool deep, .slice ta toks.length tc] w fun e w' => e = .returned (.bool (mayB l p deep toks)) ∧ Below w.heap.size w w' := by
  have HH := hide h
  have HP := hide h'
  have HT := hide ht
  have HPL := hide (And.intro hpl hpm)
  have HTL := hide htl
  clear h h' ht hpl hpm htl
  go_enter Tryz.func59, Tryz.ntmps59
  go_wp2
  go_loopw [9, 10, 11] (fun sv dv i wr => ∃ (k : Nat) (s d : Bool), k ≤ l.length ∧ i = .int .i64 k ∧ sv = .bool s ∧ dv = .bool d ∧ Hid (mayS p deep toks (l.take k) s d) ∧ Below w.heap.size w wr) (fun _ _ i _ => l.length - (intOf i).toNat)
  case atStart => exact ⟨0, false, false, Nat.zero_le _, rfl, rfl, rfl, (by show mayS _ _ _ _ _ _; refine ⟨?_, ?_, ?_⟩ <;> simp), Below.refl _ _⟩
  case round =>
    obtain ⟨k, s, d, hk, rfl, rfl, rfl, HS, hbe⟩ := hrel
    by_cases hlt : k < l.length
    · obtain ⟨b, o, rfl, hb, hc⟩ := (HH.out.below hbe hB) (by omega)
      obtain ⟨pa, pc1, ⟨hc0, hc1, hc2, hc3, hc4⟩, hin⟩ := hc k hlt
      have hBr := Nat.le_trans hB hbe.size
      have hpy := HP.out.below hbe hC
      have HQ := hide (specCovers_any l[k] pa pc1 pp p pc B C wr hin hBr hpy (Nat.le_trans hC hbe.size) HPL.out.1 HPL.out.2)
      have HU := hide (fun w1 (hb1 : Below wr.heap.size wr w1) => specUnder_any pa pp l[k].pa p pc1 pc B C w1 (hin.ph.below hb1 hBr) (hpy.below hb1 (Nat.le_trans hC hbe.size)) hin.len (Nat.le_trans HPL.out.1 HPL.out.2) hin.pl hin.pm)
      have HI := hide (fun w1 (hb1 : Below w.heap.size w w1) => specHas_any ta toks tc D l[k].tk w1 (HT.out.below hb1 hD) HTL.out)
      have HTK := hide (List.take_succ_eq_append_getElem hlt)
      have HNO := hide (fun (e1 : touchB p deep l[k] = true) e2 => may_no (toks := toks) hlt e1 e2)
      have HY := hide (fun (e1 : touchB p deep l[k] = true) e2 => mayS_yes HS.out e1 e2)
      have HN := hide (fun (e1 : touchB p deep l[k] = false) => mayS_not HS.out e1)
      have HTB := hide (show touchB p deep l[k] = (covB l[k] p || (deep && underB l[k].pa p)) from rfl)
      have HHB := hide (show hasTk toks l[k] = toks.any (· == l[k].tk) from rfl)
      rw [← HTK.out] at HY HN
      have hbw : b < wr.heap.size := by omega
      clear hc hin HTK hpy hBr
      generalize hx : l[k] = x at *
      obtain ⟨tk, tt, de, sh, un⟩ := x
      simp only at hc0 hc1 hc2 hc3 hc4 HQ HU HI HHB HTB
      clear hx
      generalize touchB p deep ⟨tk, tt, de, sh, un⟩ = tb at *
      generalize hasTk toks ⟨tk, tt, de, sh, un⟩ = hs at *
      generalize toks.any (· == tk) = hs2 at *
      generalize covB ⟨tk, tt, de, sh, un⟩ p = cv at *
      generalize underB tt p = un2 at *
      have hHB := HHB.out
      subst hHB
      have hTB := HTB.out
      clear HTB HHB
      go_wp2_with fail
      refine HQ.out.mono ?_
      rintro e w1 ⟨rfl, b1⟩
      have HC1 := hide (hbe.trans (b1.mono hbe.size))
      have HB1 := hide b1
      have d0 := (b1.cell (p := ⟨b, o + k * 5, none⟩) hbw).trans hc0
      have d1 := (b1.cell (p := ⟨b, o + k * 5 + 1, none⟩) hbw).trans hc1
      have d3 := (b1.cell (p := ⟨b, o + k * 5 + 3, none⟩) hbw).trans hc3
      have hbw1 : b < w1.heap.size := by have := b1.size; omega
      clear b1 HQ hc0 hc1 hc2 hc3 hc4 hbw
      cases cv
      · cases deep
        · simp only [Bool.false_and, Bool.or_self] at hTB
          subst hTB
          have HF := hide (HN.out (by trivial))
          clear HNO HY HN HI
          go_wp2
          go_roundw
          case rel => exact ⟨k + 1, s, d, by omega, by go_num, rfl, rfl, HF, HC1.out⟩
          case measure => simp [intOf]; omega
        · have HU1 := hide (HU.out w1 HB1.out)
          clear HU
          go_wp2_with fail
          refine HU1.out.mono ?_
          rintro e w2 ⟨rfl, b2⟩
          have b2 := b2 w1.heap.size
          have HC2 := hide (HC1.out.trans (b2.mono HC1.out.size))
          have e0 := (b2.cell (p := ⟨b, o + k * 5, none⟩) hbw1).trans d0
          have e3 := (b2.cell (p := ⟨b, o + k * 5 + 3, none⟩) hbw1).trans d3
          clear b2 HU1 d0 d1 d3
          simp only [Bool.true_and, Bool.false_or] at hTB
          subst hTB
          cases tb
          · have HF := hide (HN.out (by trivial))
            clear HNO HY HN HI
            go_wp2
            go_roundw
            case rel => exact ⟨k + 1, s, d, by omega, by go_num, rfl, rfl, HF, HC2.out⟩
            case measure => simp [intOf]; omega
          · have HI1 := hide (HI.out w2 HC2.out)
            go_wp2_with fail
            refine HI1.out.mono ?_
            rintro e w9 ⟨rfl, hw⟩
            obtain rfl := hw.symm
            clear HI1 HI hw
            cases hs
            · cases sh
              · have HA := hide (HNO.out (by trivial) (by trivial))
                clear HNO HY HN
                go_wp2
                go_ret
                exact ⟨by first | (rw [HA.out]; done) | (rw [HA.out]; rfl), HC2.out⟩
              · have HF := hide (HY.out (by trivial) (by trivial))
                clear HNO HY HN
                cases s
                · cases d
                  · go_wp2
                    go_roundw
                    case rel => exact ⟨k + 1, true, false, by omega, by go_num, rfl, rfl, hide (by have h := HF.out; simpa using h), HC2.out⟩
                    case measure => simp [intOf]; omega
                  · go_wp2
                    go_roundw
                    case rel => exact ⟨k + 1, true, true, by omega, by go_num, rfl, rfl, hide (by have h := HF.out; simpa using h), HC2.out⟩
                    case measure => simp [intOf]; omega
                · cases d
                  · go_wp2
                    go_roundw
                    case rel => exact ⟨k + 1, true, false, by omega, by go_num, rfl, rfl, hide (by have h := HF.out; simpa using h), HC2.out⟩
                    case measure => simp [intOf]; omega
                  · go_wp2
                    go_roundw
                    case rel => exact ⟨k + 1, true, true, by omega, by go_num, rfl, rfl, hide (by have h := HF.out; simpa using h), HC2.out⟩
                    case measure => simp [intOf]; omega
            · cases sh
              · have HF := hide (HY.out (by trivial) (by trivial))
                clear HNO HY HN
                cases s
                · cases d
                  · go_wp2
                    go_roundw
                    case rel => exact ⟨k + 1, false, false, by omega, by go_num, rfl, rfl, hide (by have h := HF.out; simpa using h), HC2.out⟩
                    case measure => simp [intOf]; omega
                  · go_wp2
                    go_roundw
                    case rel => exact ⟨k + 1, false, true, by omega, by go_num, rfl, rfl, hide (by have h := HF.out; simpa using h), HC2.out⟩
                    case measure => simp [intOf]; omega
                · cases d
                  · go_wp2
                    go_roundw
                    case rel => exact ⟨k + 1, true, false, by omega, by go_num, rfl, rfl, hide (by have h := HF.out; simpa using h), HC2.out⟩
                    case measure => simp [intOf]; omega
                  · go_wp2
                    go_roundw
                    case rel => exact ⟨k + 1, true, true, by omega, by go_num, rfl, rfl, hide (by have h := HF.out; simpa using h), HC2.out⟩
                    case measure => simp [intOf]; omega
              · have HF := hide (HY.out (by trivial) (by trivial))
                clear HNO HY HN
                cases s
                · cases d
                  · go_wp2
                    go_roundw
                    case rel => exact ⟨k + 1, true, true, by omega, by go_num, rfl, rfl, hide (by have h := HF.out; simpa using h), HC2.out⟩
                    case measure => simp [intOf]; omega
                  · go_wp2
                    go_roundw
                    case rel => exact ⟨k + 1, true, true, by omega, by go_num, rfl, rfl, hide (by have h := HF.out; simpa using h), HC2.out⟩
                    case measure => simp [intOf]; omega
                · cases d
                  · go_wp2
                    go_roundw
                    case rel => exact ⟨k + 1, true, true, by omega, by go_num, rfl, rfl, hide (by have h := HF.out; simpa using h), HC2.out⟩
                    case measure => simp [intOf]; omega
                  · go_wp2
                    go_roundw
                    case rel => exact ⟨k + 1, true, true, by omega, by go_num, rfl, rfl, hide (by have h := HF.out; simpa using h), HC2.out⟩
                    case measure => simp [intOf]; omega
      · simp only [Bool.true_or] at hTB
        subst hTB
        clear HU
        have HI1 := hide (HI.out w1 HC1.out)
        go_wp2_with fail
        refine HI1.out.mono ?_
        rintro e w9 ⟨rfl, hw⟩
        obtain rfl := hw.symm
        clear HI1 HI hw
        cases hs
        · cases sh
          · have HA := hide (HNO.out (by trivial) (by trivial))
            clear HNO HY HN
            go_wp2
            go_ret
            exact ⟨by first | (rw [HA.out]; done) | (rw [HA.out]; rfl), HC1.out⟩
          · have HF := hide (HY.out (by trivial) (by trivial))
            clear HNO HY HN
            cases s
            · cases d
              · go_wp2
                go_roundw
                case rel => exact ⟨k + 1, true, false, by omega, by go_num, rfl, rfl, hide (by have h := HF.out; simpa using h), HC1.out⟩
                case measure => simp [intOf]; omega
              · go_wp2
                go_roundw
                case rel => exact ⟨k + 1, true, true, by omega, by go_num, rfl, rfl, hide (by have h := HF.out; simpa using h), HC1.out⟩
                case measure => simp [intOf]; omega
            · cases d
              · go_wp2
                go_roundw
                case rel => exact ⟨k + 1, true, false, by omega, by go_num, rfl, rfl, hide (by have h := HF.out; simpa using h), HC1.out⟩
                case measure => simp [intOf]; omega
              · go_wp2
                go_roundw
                case rel => exact ⟨k + 1, true, true, by omega, by go_num, rfl, rfl, hide (by have h := HF.out; simpa using h), HC1.out⟩
                case measure => simp [intOf]; omega
        · cases sh
          · have HF := hide (HY.out (by trivial) (by trivial))
            clear HNO HY HN
            cases s
            · cases d
              · go_wp2
                go_roundw
                case rel => exact ⟨k + 1, false, false, by omega, by go_num, rfl, rfl, hide (by have h := HF.out; simpa using h), HC1.out⟩
                case measure => simp [intOf]; omega
              · go_wp2
                go_roundw
                case rel => exact ⟨k + 1, false, true, by omega, by go_num, rfl, rfl, hide (by have h := HF.out; simpa using h), HC1.out⟩
                case measure => simp [intOf]; omega
            · cases d
              · go_wp2
                go_roundw
                case rel => exact ⟨k + 1, true, false, by omega, by go_num, rfl, rfl, hide (by have h := HF.out; simpa using h), HC1.out⟩
                case measure => simp [intOf]; omega
              · go_wp2
                go_roundw
                case rel => exact ⟨k + 1, true, true, by omega, by go_num, rfl, rfl, hide (by have h := HF.out; simpa using h), HC1.out⟩
                case measure => simp [intOf]; omega
          · have HF := hide (HY.out (by trivial) (by trivial))
            clear HNO HY HN
            cases s
            · cases d
              · go_wp2
                go_roundw
                case rel => exact ⟨k + 1, true, true, by omega, by go_num, rfl, rfl, hide (by have h := HF.out; simpa using h), HC1.out⟩
                case measure => simp [intOf]; omega
              · go_wp2
                go_roundw
                case rel => exact ⟨k + 1, true, true, by omega, by go_num, rfl, rfl, hide (by have h := HF.out; simpa using h), HC1.out⟩
                case measure => simp [intOf]; omega
            · cases d
              · go_wp2
                go_roundw
                case rel => exact ⟨k + 1, true, true, by omega, by go_num, rfl, rfl, hide (by have h := HF.out; simpa using h), HC1.out⟩
                case measure => simp [intOf]; omega
              · go_wp2
                go_roundw
                case rel => exact ⟨k + 1, true, true, by omega, by go_num, rfl, rfl, hide (by have h := HF.out; simpa using h), HC1.out⟩
                case measure => simp [intOf]; omega
    · have HF := hide (show l.take k = l from List.take_of_length_le (by omega))
      rw [HF.out] at HS
      have HA := hide (may_end HS.out)
      clear HS
      cases s
      · cases d
        · go_wp2
          go_ret
          exact ⟨by first | (rw [HA.out]; done) | (rw [HA.out]; rfl), hbe⟩
        · go_wp2
          go_ret
          exact ⟨by first | (rw [HA.out]; done) | (rw [HA.out]; rfl), hbe⟩
      · cases d
        · go_wp2
          go_ret
          exact ⟨by first | (rw [HA.out]; done) | (rw [HA.out]; rfl), hbe⟩
        · go_wp2
          go_ret
          exact ⟨by first | (rw [HA.out]; done) | (rw [HA.out]; rfl), hbe⟩
end Go.Proofs.YtfhcniifennfbaaGreatDoor
