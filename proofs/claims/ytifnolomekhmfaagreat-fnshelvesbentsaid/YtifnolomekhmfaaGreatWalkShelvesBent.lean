/-
  The walk of the law FnShelvesBent: of drawn shelves, bent or not, what is done is as the specification has it.
-/
import Derived.Test.YtifnolomekhmfaaGreatDrawBent11
import Derived.Test.YtifnolomekhmfaaGreatIsColl
import Derived.Test.YtifnolomekhmfaaGreatMathFarS
import Derived.Test.YtifnolomekhmfaaGreatSpecFar
import Derived.Test.YtifnolomekhmfaaGreatPutI
import Derived.Test.YtifnolomekhmfaaGreatSpecPutOld
import Derived.Test.YtifnolomekhmfaaGreatWide
import Derived.Test.YtifnolomekhmfaaGreatSpecMake
import Derived.Test.YtifnolomekhmfaaGreatIsRow
namespace Go.Proofs.YtifnolomekhmfaaGreat
open Go.RowKit M
set_option linter.unusedVariables false

theorem few_shortT {rs : List Rs} (h : FewT rs) : ShortT rs := fun r hr => by
  obtain ⟨h1, h2, h3, h4⟩ := h.2 r hr
  have h5 := h1.1
  refine ⟨by unfold maxLen; omega, h1.short, by unfold maxLen; omega, by unfold maxLen; omega, fun p hp => ?_⟩
  have := h4 p hp
  unfold maxLen
  omega
theorem few_szT {rs : List Rs} (h : FewT rs) : SzT rs := fun r hr => by
  obtain ⟨h1, h2, h3, h4⟩ := h.2 r hr
  have h5 := h1.1
  exact ⟨by omega, by omega, fun s hs => by have := h1.2 s hs; omega, by omega, fun p hp => by have := h4 p hp; omega⟩
theorem few_lp {rs : List Rs} (h : FewT rs) : ∀ r ∈ rs, r.pa.length ≤ 1048576 ∧ r.ps.length ≤ 1048576 := fun r hr => ⟨(few_szT h r hr).1, (few_szT h r hr).2.1⟩
theorem few_len {rs : List Rs} (h : FewT rs) : rs.length ≤ 1048576 := Nat.le_trans h.1 (by decide)
theorem few_sz {n : Nat} {ss : List ByteArray} (h : Few n ss) : ∀ x ∈ ss, x.size ≤ 281474976710656 := fun x hx => by have := h.2 x hx; omega
/-- What an operation hands back: shelves and a code. -/
def GaveB (w' : World) (e : Ending) (rs : List Rs) (c : Int) : Prop := ∃ g cap, e = .returned (.tuple #[.slice (some ⟨g, 0, none⟩) rs.length cap, .int .i64 c]) ∧ Rss w' w'.heap.size (some ⟨g, 0, none⟩) rs
/-- Its lists are no longer than any list. -/
def LowT (rs : List Rs) : Prop := ∀ r ∈ rs, r.pa.length ≤ maxLen ∧ r.ps.length ≤ maxLen
theorem low_of {rs : List Rs} (h : FewT rs) : LowT rs := fun r hr => by
  have h1 := few_lp h r hr
  unfold maxLen; omega
theorem low_far {rs : List Rs} {ss tt : List ByteArray} (h : FewT rs) (ht : Few 7 tt) (o : Bool) (v : Int) (mv : Bool) : LowT (farR rs ss tt o v mv) := by
  have hl := low_of h
  have hr : ∀ y ∈ restL rs ss tt mv, y ∈ rs := fun y hy => by
    unfold restL at hy
    split at hy
    · exact (List.mem_filter.1 (List.mem_filter.1 hy).1).1
    · exact (List.mem_filter.1 hy).1
  unfold farR
  split
  · intro y hy
    unfold wholeL at hy
    rcases List.mem_append.1 hy with h1 | h1
    · exact hl y (hr y ((List.takeWhile_sublist _).subset h1))
    · rcases List.mem_append.1 h1 with h2 | h2
      · unfold carryL at h2
        obtain ⟨r, hrd, rfl⟩ := List.mem_map.1 h2
        have h3 := h.2 r (List.mem_filter.1 hrd).1
        have h4 := h3.1.1
        have h5 := ht.1
        refine ⟨?_, ?_⟩
        · show (tt ++ r.pa.drop ss.length).length ≤ maxLen
          rw [List.length_append, List.length_drop]
          unfold maxLen; omega
        · show r.ps.length ≤ maxLen
          unfold maxLen; omega
      · exact hl y (hr y ((List.dropWhile_sublist _).subset h2))
  · exact hl
theorem low_put {rs : List Rs} {ss : List ByteArray} (h : FewT rs) (hs : Few 7 ss) (bo : ByteArray) (v : Int) : LowT (putFR rs ss bo v) := by
  unfold putFR
  split
  · intro y hy
    rcases putR_mem.1 hy with rfl | ⟨h1, _⟩
    · have h2 := (old_sizes (p := ss) (few_szT h)).1
      have h3 := hs.1
      refine ⟨?_, ?_⟩
      · show ss.length ≤ maxLen
        unfold maxLen; omega
      · show (oldPs rs ss).length ≤ maxLen
        unfold maxLen; omega
    · exact low_of h y h1
  · exact low_of h
theorem low_make {rs : List Rs} {ss : List ByteArray} (h : FewT rs) (hs : Few 7 ss) (v : Int) : LowT (makeR rs ss v) := by
  unfold makeR
  split
  · intro y hy
    rcases putR_mem.1 hy with rfl | ⟨h1, _⟩
    · have h3 := hs.1
      refine ⟨?_, Nat.zero_le _⟩
      show ss.length ≤ maxLen
      unfold maxLen; omega
    · exact low_of h y h1
  · exact low_of h
theorem low_rem {rs : List Rs} {ss : List ByteArray} (h : FewT rs) : LowT (remR rs ss) := by
  unfold remR
  split
  · exact fun y hy => low_of h y (List.mem_filter.1 hy).1
  · exact low_of h
theorem GaveIs.b {w w' : World} {e : Ending} {rs : List Rs} {c : Int} (h : GaveIs w w' e rs c) (hs : LowT rs) : GaveB w' e rs c := by
  obtain ⟨g, cap, pb, qb, rfl, ho⟩ := h
  exact ⟨g, cap, rfl, ho.rss hs (Nat.le_refl _)⟩
theorem TurnIs.b {w w' : World} {e : Ending} {rs : List Rs} {c : Int} (h : TurnIs w w' e rs c) (_ : LowT rs) : GaveB w' e rs c := by
  obtain ⟨v, ts, base, h1, rfl, hg, hm⟩ := h
  subst hm
  obtain ⟨b, cap, hv, hb⟩ := hg.rss (Nat.le_refl _)
  subst hv
  exact ⟨b, cap, by rw [List.length_map], hb⟩
def BothB (fi fs : Nat) (args : Array Value) (w : World) (rs : List Rs) (c : Int) : Prop := (∀ W, Below w.heap.size w W → Calls Tryz.prog fi args W fun e w' => GaveB w' e rs c ∧ Below W.heap.size W w') ∧ ∀ W, Below w.heap.size w W → Calls Tryz.prog fs args W fun e w' => GaveB w' e rs c ∧ Below W.heap.size W w'
theorem copy_both {w : World} {tv pv qv : Value} {rs : List Rs} {ss tt : List ByteArray} (ht : BentT w tv rs) (hp : BentP w pv ss) (hq : BentP w qv tt) (o : Bool) (v : Int) : BothB 8 9 #[tv, pv, qv, .bool o, .int .i64 v] w (farR rs ss tt o v false) (farC rs ss tt o v false) := by
  obtain ⟨g, c, rfl, h1, h2, hf, hR⟩ := ht
  obtain ⟨gp, cp, rfl, p1, p2, hfp, hP⟩ := hp
  obtain ⟨gq, cq, rfl, q1, q2, hfq, hQ⟩ := hq
  have hpl := hfp.1
  have hql := hfq.1
  exact ⟨fun W hW => (copyTreeI_any _ rs c w.heap.size _ ss cp gq 0 tt cq o v W (hR.below hW (Nat.le_refl _)) (hP.below hW (Nat.le_refl _)) (hQ.below hW (Nat.le_refl _)) hW.size (few_shortT hf) (few_len hf) (few_szT hf) hfp.short (by omega) hfq.short (by omega) (few_sz hfq) p1 p2 q1 q2).mono fun e w' q => ⟨q.1.b (low_far hf hfq o v false), q.2⟩,
    fun W hW => (specCopyTree_any _ rs c w.heap.size _ ss cp gq 0 tt cq o v W (hR.below hW (Nat.le_refl _)) (hP.below hW (Nat.le_refl _)) (hQ.below hW (Nat.le_refl _)) hW.size (few_shortT hf) (few_len hf) (few_lp hf) hfp.short (by omega) hfq.short (by omega) p1 p2 q1 q2).mono fun e w' q => ⟨q.1.b (low_far hf hfq o v false), q.2⟩⟩
theorem move_both {w : World} {tv pv qv : Value} {rs : List Rs} {ss tt : List ByteArray} (ht : BentT w tv rs) (hp : BentP w pv ss) (hq : BentP w qv tt) (o : Bool) (v : Int) : BothB 10 11 #[tv, pv, qv, .bool o, .int .i64 v] w (farR rs ss tt o v true) (farC rs ss tt o v true) := by
  obtain ⟨g, c, rfl, h1, h2, hf, hR⟩ := ht
  obtain ⟨gp, cp, rfl, p1, p2, hfp, hP⟩ := hp
  obtain ⟨gq, cq, rfl, q1, q2, hfq, hQ⟩ := hq
  have hpl := hfp.1
  have hql := hfq.1
  exact ⟨fun W hW => (moveTreeI_any _ rs c w.heap.size _ ss cp gq 0 tt cq o v W (hR.below hW (Nat.le_refl _)) (hP.below hW (Nat.le_refl _)) (hQ.below hW (Nat.le_refl _)) hW.size (few_shortT hf) (few_len hf) (few_szT hf) hfp.short (by omega) hfq.short (by omega) (few_sz hfq) p1 p2 q1 q2).mono fun e w' q => ⟨q.1.b (low_far hf hfq o v true), q.2⟩,
    fun W hW => (specMoveTree_any _ rs c w.heap.size _ ss cp gq 0 tt cq o v W (hR.below hW (Nat.le_refl _)) (hP.below hW (Nat.le_refl _)) (hQ.below hW (Nat.le_refl _)) hW.size (few_shortT hf) (few_len hf) (few_lp hf) hfp.short (by omega) hfq.short (by omega) p1 p2 q1 q2).mono fun e w' q => ⟨q.1.b (low_far hf hfq o v true), q.2⟩⟩
theorem put_both {w : World} {tv pv : Value} {rs : List Rs} {ss : List ByteArray} (ht : BentT w tv rs) (hp : BentP w pv ss) (bo : ByteArray) (hbo : bo.size ≤ 1000) (v : Int) : BothB 13 14 #[tv, pv, .string bo, .int .i64 v] w (putFR rs ss bo v) (codeM (fileI rs ss bo v) (okF (findI rs ss))) := by
  obtain ⟨g, c, rfl, h1, h2, hf, hR⟩ := ht
  obtain ⟨gp, cp, rfl, p1, p2, hfp, hP⟩ := hp
  have hpl := hfp.1
  exact ⟨fun W hW => (putFile_any _ rs c w.heap.size gp 0 ss cp bo v W (hR.below hW (Nat.le_refl _)) (hP.below hW (Nat.le_refl _)) hW.size (few_shortT hf) (few_len hf) (few_szT hf) hfp.short (by omega) (few_sz hfp) p1 p2 (by omega)).mono fun e w' q => ⟨q.1.b (low_put hf hfp bo v), q.2⟩,
    fun W hW => (specPutFile_any _ rs c w.heap.size _ ss cp bo v W (hR.below hW (Nat.le_refl _)) (hP.below hW (Nat.le_refl _)) hW.size (few_shortT hf) (few_len hf) (few_lp hf) hfp.short (by omega) p1 p2 (fun e => by cases e) (by unfold maxLen; omega)).mono fun e w' q => ⟨q.1.b (low_put hf hfp bo v), q.2⟩⟩
theorem make_both {w : World} {tv pv : Value} {rs : List Rs} {ss : List ByteArray} (ht : BentT w tv rs) (hp : BentP w pv ss) (v : Int) : BothB 16 17 #[tv, pv, .int .i64 v] w (makeR rs ss v) (codeM (collI rs ss v) 201) := by
  obtain ⟨g, c, rfl, h1, h2, hf, hR⟩ := ht
  obtain ⟨gp, cp, rfl, p1, p2, hfp, hP⟩ := hp
  have hpl := hfp.1
  exact ⟨fun W hW => (makeColl_any _ rs c w.heap.size gp 0 ss cp v W (hR.below hW (Nat.le_refl _)) (hP.below hW (Nat.le_refl _)) hW.size (few_shortT hf) (few_len hf) (few_szT hf) hfp.short (by omega) (few_sz hfp) p1 p2).mono fun e w' q => ⟨q.1.b (low_make hf hfp v), q.2⟩,
    fun W hW => (specMakeColl_any _ rs c w.heap.size _ ss cp v W (hR.below hW (Nat.le_refl _)) (hP.below hW (Nat.le_refl _)) hW.size (few_shortT hf) (few_len hf) (few_lp hf) hfp.short (by omega) p1 p2 (fun e => by cases e)).mono fun e w' q => ⟨q.1.b (low_make hf hfp v), q.2⟩⟩
theorem remove_both {w : World} {tv pv : Value} {rs : List Rs} {ss : List ByteArray} (ht : BentT w tv rs) (hp : BentP w pv ss) : BothB 19 20 #[tv, pv] w (remR rs ss) (remC (remI rs ss)) := by
  obtain ⟨g, c, rfl, h1, h2, hf, hR⟩ := ht
  obtain ⟨gp, cp, rfl, p1, p2, hfp, hP⟩ := hp
  have hpl := hfp.1
  exact ⟨fun W hW => (remove_any _ rs c w.heap.size _ ss cp w.heap.size W (hR.below hW (Nat.le_refl _)) (hP.below hW (Nat.le_refl _)) hW.size hW.size (few_shortT hf) (few_len hf) (few_szT hf) hfp.short (by omega)).mono fun e w' q => ⟨q.1.b (low_rem hf), q.2⟩,
    fun W hW => (specRemove_any _ rs c w.heap.size _ ss cp w.heap.size W (hR.below hW (Nat.le_refl _)) (hP.below hW (Nat.le_refl _)) hW.size hW.size (few_shortT hf) (few_len hf) (few_lp hf) hfp.short (by omega)).mono fun e w' q => ⟨q.1.b (low_rem hf), q.2⟩⟩
theorem few_wide {rs : List Rs} (h : FewT rs) : wideN rs ≤ 1048576 := by
  have k : ∀ l : List Rs, (∀ r ∈ l, r.bo.size ≤ 1000) → wideN l ≤ l.length * 1000 := by
    intro l
    induction l with
    | nil => intro _; exact Nat.zero_le _
    | cons x l ih =>
      intro hl
      have h1 := hl x (List.mem_cons_self ..)
      have h2 := ih fun r hr => hl r (List.mem_cons_of_mem _ hr)
      unfold wideN at h2 ⊢
      rw [List.map_cons, List.sum_cons, List.length_cons]
      omega
  have h1 := k rs fun r hr => (h.2 r hr).2.1
  have h2 := h.1
  omega
theorem bentT_len {w : World} {tv : Value} {rs : List Rs} (ht : BentT w tv rs) : rs.length ≤ 24 := by
  obtain ⟨g, c, h0, h1, h2, hf, hR⟩ := ht
  exact hf.1
theorem wide_both {w : World} {tv : Value} {rs : List Rs} (ht : BentT w tv rs) : (∀ W, Below w.heap.size w W → Calls Tryz.prog 22 #[tv] W fun e w' => e = .returned (.int .i64 (wideN rs : Nat)) ∧ Below W.heap.size W w') ∧ ∀ W, Below w.heap.size w W → Calls Tryz.prog 23 #[tv] W fun e w' => e = .returned (.int .i64 (wideN rs : Nat)) ∧ Below W.heap.size W w' := by
  obtain ⟨g, c, rfl, h1, h2, hf, hR⟩ := ht
  exact ⟨fun W hW => wide_any _ rs c w.heap.size W (hR.below hW (Nat.le_refl _)) hW.size (few_len hf) (few_wide hf), fun W hW => (specWide_any _ rs c w.heap.size W (hR.below hW (Nat.le_refl _)) (few_len hf) (few_wide hf)).mono fun e w' q => ⟨q.1, by rw [q.2]; exact Below.refl _ _⟩⟩
theorem same_gave {w : World} {g g' c c' : Nat} {rs : List Rs} (h : Rss w w.heap.size (some ⟨g, 0, none⟩) rs) (h' : Rss w w.heap.size (some ⟨g', 0, none⟩) rs) (hl : rs.length ≤ maxLen) : Calls Tryz.prog 21 #[.slice (some ⟨g, 0, none⟩) rs.length c, .slice (some ⟨g', 0, none⟩) rs.length c'] w fun e w' => e = .returned (.bool true) ∧ Below w.heap.size w w' := sameTree_same _ _ rs c c' w.heap.size w.heap.size w h h' (Nat.le_refl _) (Nat.le_refl _) hl

theorem bent_far {w : World} {tv pv qv : Value} {rs : List Rs} {ss tt : List ByteArray} (ht : BentT w tv rs) (hp : BentP w pv ss) (hq : BentP w qv tt) (o : Bool) (v : Int) (mv : Bool) : (farR rs ss tt o v mv).length ≤ maxLen := by
  have hl := bentT_len ht
  have hd : (deepL rs ss).length ≤ rs.length := List.length_filter_le _ _
  have hr := restL_len rs ss tt mv
  unfold farR
  split
  · have h1 : ∀ (l : List Rs) (f : Rs → Bool), (l.takeWhile f).length ≤ l.length := fun l f => (List.takeWhile_sublist f).length_le
    have h2 : ∀ (l : List Rs) (f : Rs → Bool), (l.dropWhile f).length ≤ l.length := fun l f => (List.dropWhile_sublist f).length_le
    unfold wholeL carryL
    have h3 := h1 (restL rs ss tt mv) (aheadB tt)
    have h4 := h2 (restL rs ss tt mv) (aheadB tt)
    rw [List.length_append, List.length_append, List.length_map]
    unfold maxLen
    omega
  · unfold maxLen; omega
theorem bent_put {w : World} {tv pv : Value} {rs : List Rs} {ss : List ByteArray} (ht : BentT w tv rs) (hp : BentP w pv ss) (bo : ByteArray) (v : Int) : (putFR rs ss bo v).length ≤ maxLen := by
  have hl := bentT_len ht
  unfold putFR
  split
  · have h1 := notAt_len (r := fileR rs ss bo v) (l := rs)
    rw [putR_len]
    unfold maxLen
    omega
  · unfold maxLen; omega
theorem bent_make {w : World} {tv pv : Value} {rs : List Rs} {ss : List ByteArray} (ht : BentT w tv rs) (hp : BentP w pv ss) (v : Int) : (makeR rs ss v).length ≤ maxLen := by
  have hl := bentT_len ht
  unfold makeR
  split
  · have h1 := notAt_len (r := shelfR ss v) (l := rs)
    rw [putR_len]
    unfold maxLen
    omega
  · unfold maxLen; omega
theorem bent_rem {w : World} {tv pv : Value} {rs : List Rs} {ss : List ByteArray} (ht : BentT w tv rs) (hp : BentP w pv ss) : (remR rs ss).length ≤ maxLen := by
  have hl := bentT_len ht
  unfold remR
  split
  · have h1 : (withoutL rs ss).length ≤ rs.length := List.length_filter_le _ _
    unfold maxLen
    omega
  · unfold maxLen; omega

set_option maxRecDepth 100000 in
set_option maxHeartbeats 16000000 in
theorem FnShelvesBent_walk (a : Option Addr) (len cap : Nat) (zs : List Int) (w : World) (hr : IsRow .u8 w a len cap zs) :
    Calls Tryz.prog 3 #[.slice a len cap] w fun e w' => e = .returned (.bool true) ∧ Below w.heap.size w w' := by
  have hml := row_len hr
  by_cases hb : (1048576 : Int) < (len : Int)
  · clear hr
    go_enter Tryz.func3, Tryz.ntmps3
    go_wp2_with (go_at_call 6; refine (big_any a len cap _ hml).mono ?_; rintro e w1 ⟨rfl, hw⟩; obtain rfl := hw.symm; rw [decide_eq_true hb])
    go_ret
    exact ⟨rfl, Below.refl _ _⟩
  · have HC : Hid (CodeIn w w.heap.size a len zs) := code_of_row hr (by omega)
    have HCW := hide (fun W (hb : Below w.heap.size w W) => (HC.out.below hb))
    clear hr
    go_enter Tryz.func3, Tryz.ntmps3
    go_wp2_with (go_at_call 6; refine (big_any a len cap _ hml).mono ?_; rintro e w1 ⟨rfl, hw⟩; obtain rfl := hw.symm; rw [decide_eq_false hb])
    refine (drawCopyTree_any HC.out cap).mono ?_
    rintro e w1 ⟨⟨tv, pv, qv, o, v, rs, ss, tt, rfl, ht, hp, hq⟩, b1⟩
    have K1 := hide b1
    have HC1 := hide (copy_both ht hp hq o v)
    have HM1 := hide (move_both ht hp hq o v)
    have L1 := hide (show (farR rs ss tt o v false).length ≤ maxLen from bent_far ht hp hq o v false)
    have L2 := hide (show (farR rs ss tt o v true).length ≤ maxLen from bent_far ht hp hq o v true)
    generalize farR rs ss tt o v false = r1 at *
    generalize farC rs ss tt o v false = c1 at *
    generalize farR rs ss tt o v true = r2 at *
    generalize farC rs ss tt o v true = c2 at *
    clear ht hp hq
    have Z1 := hide (Below.refl w1.heap.size w1)
    clear b1
    go_wp2_with fail
    refine (HC1.out.1 _ Z1.out).mono ?_
    rintro e w2 ⟨⟨gA, cA, rfl, hh⟩, b2⟩
    have K2 := hide (K1.out.trans (b2.mono K1.out.size))
    clear K1
    have A_2 := hide hh
    have Z2 := hide (Z1.out.trans (b2.mono Z1.out.size))
    clear hh b2 Z1
    go_wp2_with fail
    refine (HC1.out.2 _ Z2.out).mono ?_
    rintro e w3 ⟨⟨gB, cB, rfl, hh⟩, b3⟩
    have K3 := hide (K2.out.trans (b3.mono K2.out.size))
    have A_3 := hide ((A_2.out.below b3 (Nat.le_refl _)).mono b3.size)
    clear K2 A_2
    have B_3 := hide hh
    have Z3 := hide (Z2.out.trans (b3.mono Z2.out.size))
    clear hh b3 Z2
    go_wp2_with fail
    refine (HM1.out.1 _ Z3.out).mono ?_
    rintro e w4 ⟨⟨gC, cC, rfl, hh⟩, b4⟩
    have K4 := hide (K3.out.trans (b4.mono K3.out.size))
    have A_4 := hide ((A_3.out.below b4 (Nat.le_refl _)).mono b4.size)
    have B_4 := hide ((B_3.out.below b4 (Nat.le_refl _)).mono b4.size)
    clear K3 A_3 B_3
    have C_4 := hide hh
    have Z4 := hide (Z3.out.trans (b4.mono Z3.out.size))
    clear hh b4 Z3
    go_wp2_with fail
    refine (HM1.out.2 _ Z4.out).mono ?_
    rintro e w5 ⟨⟨gD, cD, rfl, hh⟩, b5⟩
    have K5 := hide (K4.out.trans (b5.mono K4.out.size))
    have A_5 := hide ((A_4.out.below b5 (Nat.le_refl _)).mono b5.size)
    have B_5 := hide ((B_4.out.below b5 (Nat.le_refl _)).mono b5.size)
    have C_5 := hide ((C_4.out.below b5 (Nat.le_refl _)).mono b5.size)
    clear K4 A_4 B_4 C_4
    have D_5 := hide hh
    have Z5 := hide (Z4.out.trans (b5.mono Z4.out.size))
    clear hh b5 Z4
    clear Z5
    go_wp2_with fail
    refine (drawPutFile_any (HCW.out _ K5.out) cap).mono ?_
    rintro e w6 ⟨⟨tv2, pv2, bo, v2, rs2, ss2, rfl, ht, hp, hbo⟩, b6⟩
    have K6 := hide (K5.out.trans (b6.mono K5.out.size))
    have A_6 := hide ((A_5.out.below b6 (Nat.le_refl _)).mono b6.size)
    have B_6 := hide ((B_5.out.below b6 (Nat.le_refl _)).mono b6.size)
    have C_6 := hide ((C_5.out.below b6 (Nat.le_refl _)).mono b6.size)
    have D_6 := hide ((D_5.out.below b6 (Nat.le_refl _)).mono b6.size)
    clear K5 A_5 B_5 C_5 D_5
    have HP2 := hide (put_both ht hp bo hbo v2)
    have L3 := hide (show (putFR rs2 ss2 bo v2).length ≤ maxLen from bent_put ht hp bo v2)
    generalize putFR rs2 ss2 bo v2 = r3 at *
    generalize codeM (fileI rs2 ss2 bo v2) (okF (findI rs2 ss2)) = c3 at *
    clear ht hp hbo
    have Z6 := hide (Below.refl w6.heap.size w6)
    clear b6
    go_wp2_with fail
    refine (HP2.out.1 _ Z6.out).mono ?_
    rintro e w7 ⟨⟨gE, cE, rfl, hh⟩, b7⟩
    have K7 := hide (K6.out.trans (b7.mono K6.out.size))
    have A_7 := hide ((A_6.out.below b7 (Nat.le_refl _)).mono b7.size)
    have B_7 := hide ((B_6.out.below b7 (Nat.le_refl _)).mono b7.size)
    have C_7 := hide ((C_6.out.below b7 (Nat.le_refl _)).mono b7.size)
    have D_7 := hide ((D_6.out.below b7 (Nat.le_refl _)).mono b7.size)
    clear K6 A_6 B_6 C_6 D_6
    have E_7 := hide hh
    have Z7 := hide (Z6.out.trans (b7.mono Z6.out.size))
    clear hh b7 Z6
    go_wp2_with fail
    refine (HP2.out.2 _ Z7.out).mono ?_
    rintro e w8 ⟨⟨gF, cF, rfl, hh⟩, b8⟩
    have K8 := hide (K7.out.trans (b8.mono K7.out.size))
    have A_8 := hide ((A_7.out.below b8 (Nat.le_refl _)).mono b8.size)
    have B_8 := hide ((B_7.out.below b8 (Nat.le_refl _)).mono b8.size)
    have C_8 := hide ((C_7.out.below b8 (Nat.le_refl _)).mono b8.size)
    have D_8 := hide ((D_7.out.below b8 (Nat.le_refl _)).mono b8.size)
    have E_8 := hide ((E_7.out.below b8 (Nat.le_refl _)).mono b8.size)
    clear K7 A_7 B_7 C_7 D_7 E_7
    have F_8 := hide hh
    have Z8 := hide (Z7.out.trans (b8.mono Z7.out.size))
    clear hh b8 Z7
    clear Z8
    go_wp2_with fail
    refine (drawMakeColl_any (HCW.out _ K8.out) cap).mono ?_
    rintro e w9 ⟨⟨tv3, pv3, v3, rs3, ss3, rfl, ht, hp⟩, b9⟩
    have K9 := hide (K8.out.trans (b9.mono K8.out.size))
    have A_9 := hide ((A_8.out.below b9 (Nat.le_refl _)).mono b9.size)
    have B_9 := hide ((B_8.out.below b9 (Nat.le_refl _)).mono b9.size)
    have C_9 := hide ((C_8.out.below b9 (Nat.le_refl _)).mono b9.size)
    have D_9 := hide ((D_8.out.below b9 (Nat.le_refl _)).mono b9.size)
    have E_9 := hide ((E_8.out.below b9 (Nat.le_refl _)).mono b9.size)
    have F_9 := hide ((F_8.out.below b9 (Nat.le_refl _)).mono b9.size)
    clear K8 A_8 B_8 C_8 D_8 E_8 F_8
    have HM3 := hide (make_both ht hp v3)
    have L4 := hide (show (makeR rs3 ss3 v3).length ≤ maxLen from bent_make ht hp v3)
    generalize makeR rs3 ss3 v3 = r4 at *
    generalize codeM (collI rs3 ss3 v3) 201 = c4 at *
    clear ht hp
    have Z9 := hide (Below.refl w9.heap.size w9)
    clear b9
    go_wp2_with fail
    refine (HM3.out.1 _ Z9.out).mono ?_
    rintro e w10 ⟨⟨gG, cG, rfl, hh⟩, b10⟩
    have K10 := hide (K9.out.trans (b10.mono K9.out.size))
    have A_10 := hide ((A_9.out.below b10 (Nat.le_refl _)).mono b10.size)
    have B_10 := hide ((B_9.out.below b10 (Nat.le_refl _)).mono b10.size)
    have C_10 := hide ((C_9.out.below b10 (Nat.le_refl _)).mono b10.size)
    have D_10 := hide ((D_9.out.below b10 (Nat.le_refl _)).mono b10.size)
    have E_10 := hide ((E_9.out.below b10 (Nat.le_refl _)).mono b10.size)
    have F_10 := hide ((F_9.out.below b10 (Nat.le_refl _)).mono b10.size)
    clear K9 A_9 B_9 C_9 D_9 E_9 F_9
    have G_10 := hide hh
    have Z10 := hide (Z9.out.trans (b10.mono Z9.out.size))
    clear hh b10 Z9
    go_wp2_with fail
    refine (HM3.out.2 _ Z10.out).mono ?_
    rintro e w11 ⟨⟨gH, cH, rfl, hh⟩, b11⟩
    have K11 := hide (K10.out.trans (b11.mono K10.out.size))
    have A_11 := hide ((A_10.out.below b11 (Nat.le_refl _)).mono b11.size)
    have B_11 := hide ((B_10.out.below b11 (Nat.le_refl _)).mono b11.size)
    have C_11 := hide ((C_10.out.below b11 (Nat.le_refl _)).mono b11.size)
    have D_11 := hide ((D_10.out.below b11 (Nat.le_refl _)).mono b11.size)
    have E_11 := hide ((E_10.out.below b11 (Nat.le_refl _)).mono b11.size)
    have F_11 := hide ((F_10.out.below b11 (Nat.le_refl _)).mono b11.size)
    have G_11 := hide ((G_10.out.below b11 (Nat.le_refl _)).mono b11.size)
    clear K10 A_10 B_10 C_10 D_10 E_10 F_10 G_10
    have H_11 := hide hh
    have Z11 := hide (Z10.out.trans (b11.mono Z10.out.size))
    clear hh b11 Z10
    clear Z11
    go_wp2_with fail
    refine (drawRemove_any (HCW.out _ K11.out) cap).mono ?_
    rintro e w12 ⟨⟨tv4, pv4, rs4, ss4, rfl, ht, hp⟩, b12⟩
    have K12 := hide (K11.out.trans (b12.mono K11.out.size))
    have A_12 := hide ((A_11.out.below b12 (Nat.le_refl _)).mono b12.size)
    have B_12 := hide ((B_11.out.below b12 (Nat.le_refl _)).mono b12.size)
    have C_12 := hide ((C_11.out.below b12 (Nat.le_refl _)).mono b12.size)
    have D_12 := hide ((D_11.out.below b12 (Nat.le_refl _)).mono b12.size)
    have E_12 := hide ((E_11.out.below b12 (Nat.le_refl _)).mono b12.size)
    have F_12 := hide ((F_11.out.below b12 (Nat.le_refl _)).mono b12.size)
    have G_12 := hide ((G_11.out.below b12 (Nat.le_refl _)).mono b12.size)
    have H_12 := hide ((H_11.out.below b12 (Nat.le_refl _)).mono b12.size)
    clear K11 A_11 B_11 C_11 D_11 E_11 F_11 G_11 H_11
    have HR4 := hide (remove_both ht hp)
    have HW4 := hide (wide_both ht)
    have L5 := hide (show (remR rs4 ss4).length ≤ maxLen from bent_rem ht hp)
    generalize remR rs4 ss4 = r5 at *
    generalize remC (remI rs4 ss4) = c5 at *
    generalize wideN rs4 = wn at *
    clear ht hp
    have Z12 := hide (Below.refl w12.heap.size w12)
    clear b12
    go_wp2_with fail
    refine (HR4.out.1 _ Z12.out).mono ?_
    rintro e w13 ⟨⟨gI, cI, rfl, hh⟩, b13⟩
    have K13 := hide (K12.out.trans (b13.mono K12.out.size))
    have A_13 := hide ((A_12.out.below b13 (Nat.le_refl _)).mono b13.size)
    have B_13 := hide ((B_12.out.below b13 (Nat.le_refl _)).mono b13.size)
    have C_13 := hide ((C_12.out.below b13 (Nat.le_refl _)).mono b13.size)
    have D_13 := hide ((D_12.out.below b13 (Nat.le_refl _)).mono b13.size)
    have E_13 := hide ((E_12.out.below b13 (Nat.le_refl _)).mono b13.size)
    have F_13 := hide ((F_12.out.below b13 (Nat.le_refl _)).mono b13.size)
    have G_13 := hide ((G_12.out.below b13 (Nat.le_refl _)).mono b13.size)
    have H_13 := hide ((H_12.out.below b13 (Nat.le_refl _)).mono b13.size)
    clear K12 A_12 B_12 C_12 D_12 E_12 F_12 G_12 H_12
    have I_13 := hide hh
    have Z13 := hide (Z12.out.trans (b13.mono Z12.out.size))
    clear hh b13 Z12
    go_wp2_with fail
    refine (HR4.out.2 _ Z13.out).mono ?_
    rintro e w14 ⟨⟨gJ, cJ, rfl, hh⟩, b14⟩
    have K14 := hide (K13.out.trans (b14.mono K13.out.size))
    have A_14 := hide ((A_13.out.below b14 (Nat.le_refl _)).mono b14.size)
    have B_14 := hide ((B_13.out.below b14 (Nat.le_refl _)).mono b14.size)
    have C_14 := hide ((C_13.out.below b14 (Nat.le_refl _)).mono b14.size)
    have D_14 := hide ((D_13.out.below b14 (Nat.le_refl _)).mono b14.size)
    have E_14 := hide ((E_13.out.below b14 (Nat.le_refl _)).mono b14.size)
    have F_14 := hide ((F_13.out.below b14 (Nat.le_refl _)).mono b14.size)
    have G_14 := hide ((G_13.out.below b14 (Nat.le_refl _)).mono b14.size)
    have H_14 := hide ((H_13.out.below b14 (Nat.le_refl _)).mono b14.size)
    have I_14 := hide ((I_13.out.below b14 (Nat.le_refl _)).mono b14.size)
    clear K13 A_13 B_13 C_13 D_13 E_13 F_13 G_13 H_13 I_13
    have J_14 := hide hh
    have Z14 := hide (Z13.out.trans (b14.mono Z13.out.size))
    clear hh b14 Z13
    have e1 : (c1 == c1) = true := beq_self_eq_true _
    have e2 : (c2 == c2) = true := beq_self_eq_true _
    have e3 : (c3 == c3) = true := beq_self_eq_true _
    have e4 : (c4 == c4) = true := beq_self_eq_true _
    have e5 : (c5 == c5) = true := beq_self_eq_true _
    go_wp2_with fail
    refine (same_gave A_14.out B_14.out L1.out).mono ?_
    rintro e w15 ⟨rfl, b15⟩
    have K15 := hide (K14.out.trans (b15.mono K14.out.size))
    have C_15 := hide ((C_14.out.below b15 (Nat.le_refl _)).mono b15.size)
    have D_15 := hide ((D_14.out.below b15 (Nat.le_refl _)).mono b15.size)
    have E_15 := hide ((E_14.out.below b15 (Nat.le_refl _)).mono b15.size)
    have F_15 := hide ((F_14.out.below b15 (Nat.le_refl _)).mono b15.size)
    have G_15 := hide ((G_14.out.below b15 (Nat.le_refl _)).mono b15.size)
    have H_15 := hide ((H_14.out.below b15 (Nat.le_refl _)).mono b15.size)
    have I_15 := hide ((I_14.out.below b15 (Nat.le_refl _)).mono b15.size)
    have J_15 := hide ((J_14.out.below b15 (Nat.le_refl _)).mono b15.size)
    clear K14 C_14 D_14 E_14 F_14 G_14 H_14 I_14 J_14
    have Z15 := hide (Z14.out.trans (b15.mono Z14.out.size))
    clear b15 Z14
    go_wp2_with fail
    refine (same_gave C_15.out D_15.out L2.out).mono ?_
    rintro e w16 ⟨rfl, b16⟩
    have K16 := hide (K15.out.trans (b16.mono K15.out.size))
    have E_16 := hide ((E_15.out.below b16 (Nat.le_refl _)).mono b16.size)
    have F_16 := hide ((F_15.out.below b16 (Nat.le_refl _)).mono b16.size)
    have G_16 := hide ((G_15.out.below b16 (Nat.le_refl _)).mono b16.size)
    have H_16 := hide ((H_15.out.below b16 (Nat.le_refl _)).mono b16.size)
    have I_16 := hide ((I_15.out.below b16 (Nat.le_refl _)).mono b16.size)
    have J_16 := hide ((J_15.out.below b16 (Nat.le_refl _)).mono b16.size)
    clear K15 E_15 F_15 G_15 H_15 I_15 J_15
    have Z16 := hide (Z15.out.trans (b16.mono Z15.out.size))
    clear b16 Z15
    go_wp2_with fail
    refine (same_gave E_16.out F_16.out L3.out).mono ?_
    rintro e w17 ⟨rfl, b17⟩
    have K17 := hide (K16.out.trans (b17.mono K16.out.size))
    have G_17 := hide ((G_16.out.below b17 (Nat.le_refl _)).mono b17.size)
    have H_17 := hide ((H_16.out.below b17 (Nat.le_refl _)).mono b17.size)
    have I_17 := hide ((I_16.out.below b17 (Nat.le_refl _)).mono b17.size)
    have J_17 := hide ((J_16.out.below b17 (Nat.le_refl _)).mono b17.size)
    clear K16 G_16 H_16 I_16 J_16
    have Z17 := hide (Z16.out.trans (b17.mono Z16.out.size))
    clear b17 Z16
    go_wp2_with fail
    refine (same_gave G_17.out H_17.out L4.out).mono ?_
    rintro e w18 ⟨rfl, b18⟩
    have K18 := hide (K17.out.trans (b18.mono K17.out.size))
    have I_18 := hide ((I_17.out.below b18 (Nat.le_refl _)).mono b18.size)
    have J_18 := hide ((J_17.out.below b18 (Nat.le_refl _)).mono b18.size)
    clear K17 I_17 J_17
    have Z18 := hide (Z17.out.trans (b18.mono Z17.out.size))
    clear b18 Z17
    go_wp2_with fail
    refine (same_gave I_18.out J_18.out L5.out).mono ?_
    rintro e w19 ⟨rfl, b19⟩
    have K19 := hide (K18.out.trans (b19.mono K18.out.size))
    clear K18
    have Z19 := hide (Z18.out.trans (b19.mono Z18.out.size))
    clear b19 Z18
    go_wp2_with fail
    refine (HW4.out.1 _ Z19.out).mono ?_
    rintro e w20 ⟨rfl, b20⟩
    have K20 := hide (K19.out.trans (b20.mono K19.out.size))
    clear K19
    have Z20 := hide (Z19.out.trans (b20.mono Z19.out.size))
    clear b20 Z19
    go_wp2_with fail
    refine (HW4.out.2 _ Z20.out).mono ?_
    rintro e w21 ⟨rfl, b21⟩
    have K21 := hide (K20.out.trans (b21.mono K20.out.size))
    clear K20
    have Z21 := hide (Z20.out.trans (b21.mono Z20.out.size))
    clear b21 Z20
    have e6 : (((wn : Nat) : Int) == ((wn : Nat) : Int)) = true := beq_self_eq_true _
    go_wp2
    go_ret
    exact ⟨rfl, K21.out⟩
end Go.Proofs.YtifnolomekhmfaaGreat
