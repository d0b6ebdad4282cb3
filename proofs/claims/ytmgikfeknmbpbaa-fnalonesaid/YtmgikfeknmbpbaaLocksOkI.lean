/-
  What FnAlone draws: locks, and a path: spec.DrawLocksOk, spec.DrawTokensAt.
  What a lock of one alone covers no other lock covers.
  Whether two slices of texts hold the same: what slices.Equal[[]string,string] does.
  What the program's Under does.
  What the program's SamePath does.
  What impl.Covers does.
  What impl.LockClash does.
  What impl.barEachOther, noTwo at it, and impl.LocksOk do.
-/
import Derived.Test.YtmgikfeknmbpbaaAnyLk
import Derived.Test.YtmgikfeknmbpbaaDrawNI
import Derived.Test.YtmgikfeknmbpbaaGenPick
import Derived.Test.YtmgikfeknmbpbaaRowC
import Derived.Test.YtmgikfeknmbpbaaRet
import Derived.Test.YtmgikfeknmbpbaaLockOkI
namespace Go.Proofs.Ytmgikfeknmbpbaa
open Go.RowKit M
set_option linter.unusedVariables false

theorem drawLocksOk_any {w : World} {B : Nat} {a : Option Addr} {len : Nat} {zs : List Int} (h : CodeIn w B a len zs) (cap : Nat) :
    Calls Try.prog 16 #[.slice a len cap] w fun e w' => AnyK w.heap.size e w' ∧ Below w.heap.size w w' := by
  have HC := hide h
  clear h
  go_enter Try.func16, Try.ntmps16
  go_wp2_with fail
  refine (newDX HC.out cap).mono ?_
  rintro e w1 ⟨rfl, hd1, b1⟩
  have hN1 : w.heap.size < w1.heap.size := hd1.lt
  have HB1 := hide b1
  have HD1 := hide hd1
  clear hd1 b1
  go_wp2_with fail
  refine (l13Any_any HD1.out).mono ?_
  rintro e w2 ⟨⟨l, g, n, c, rfl, hf, hn, hc1, hc2, hr⟩, hd2, hg2⟩
  have HR := hide (show AnyK w.heap.size (.returned (.slice (some ⟨g, 0, none⟩) n c)) w2 ∧ Below w.heap.size w w2 from ⟨⟨l, g, n, c, rfl, hf, hn, hc1, hc2, hr.mono (by omega)⟩, HB1.out.trans (grown_below hg2 (Nat.le_refl _) (by omega))⟩)
  clear hf hn hc1 hc2 hr hd2 hg2
  go_wp2
  refine bodyPost_ret (v := .slice (some ⟨g, 0, none⟩) n c) (by simp [results, Try.results16, go_sem]) rfl HR.out

/-- Locks, and a path. -/
def AnyT (B : Nat) (e : Ending) (w' : World) : Prop := ∃ (l : List Lk) (g n c : Nat) (ss : List ByteArray) (p m k : Nat), e = .returned (.tuple #[.slice (some ⟨g, 0, none⟩) n c, .slice (some ⟨p, 0, none⟩) m k]) ∧ FewM 6 l ∧ n = l.length ∧ n ≤ c ∧ c ≤ maxLen ∧ RowC w' B g c l ∧ Few 3 ss ∧ m = ss.length ∧ RowS w' p ss ∧ ss.length ≤ k ∧ k ≤ maxLen ∧ B ≤ p
set_option maxHeartbeats 1000000 in
theorem drawTokensAt_any {w : World} {B : Nat} {a : Option Addr} {len : Nat} {zs : List Int} (h : CodeIn w B a len zs) (cap : Nat) :
    Calls Try.prog 17 #[.slice a len cap] w fun e w' => AnyT w.heap.size e w' ∧ Below w.heap.size w w' := by
  have HC := hide h
  clear h
  go_enter Try.func17, Try.ntmps17
  go_wp2_with fail
  refine (newDX HC.out cap).mono ?_
  rintro e w1 ⟨rfl, hd1, b1⟩
  have hN1 : w.heap.size < w1.heap.size := hd1.lt
  have HB1 := hide b1
  have HD1 := hide hd1
  clear hd1 b1
  go_wp2_with fail
  refine (l13Any_any HD1.out).mono ?_
  rintro e w2 ⟨⟨l, g, n, c, rfl, hf, hn, hc1, hc2, hr⟩, hd2, hg2⟩
  have HK := hide (And.intro hf (And.intro hn (And.intro hc1 hc2)))
  have HR2 := hide hr
  have HD2 := hide hd2
  have HG2 := hide hg2
  clear hf hn hc1 hc2 hr hd2 hg2 HD1
  go_wp2_with fail
  refine (l2Draw_any HD2.out).mono ?_
  rintro e w3 ⟨⟨ss, m, p, k, hf3, hm, rfl, ho⟩, dx3, g3⟩
  obtain ⟨q1, q2, q3, q4⟩ := rowS_of ho hm
  have hz2 := HG2.out.size
  have HR := hide (show AnyT w.heap.size (.returned (.tuple #[.slice (some ⟨g, 0, none⟩) n c, .slice (some ⟨p, 0, none⟩) m k])) w3 ∧ Below w.heap.size w w3 from
    ⟨⟨l, g, n, c, ss, p, m, k, rfl, HK.out.1, HK.out.2.1, HK.out.2.2.1, HK.out.2.2.2, (HR2.out.grown g3 hN1).mono (by omega), hf3, hm, q1, q2, q3, by omega⟩, HB1.out.trans (grown_below (grown_trans HG2.out g3) (Nat.le_refl _) (by omega))⟩)
  clear hf3 hm ho dx3 g3 q1 q2 q3 q4
  go_wp2
  refine bodyPost_ret (v := .tuple #[.slice (some ⟨g, 0, none⟩) n c, .slice (some ⟨p, 0, none⟩) m k]) ?_ rfl HR.out
  simp [results, Try.results17, go_sem]
end Go.Proofs.Ytmgikfeknmbpbaa
namespace Go.Proofs.Ytmgikfeknmbpbaa.M
open Go.RowKit
set_option linter.unusedVariables false

theorem under_of {q p : List ByteArray} (h : underB q p = true) : p.length < q.length ∧ q.take p.length = p := by
  unfold underB sameL at h
  rw [Bool.and_eq_true, decide_eq_true_eq, decide_eq_true_eq] at h
  exact h
theorem under_mk {q p : List ByteArray} (h1 : p.length < q.length) (h2 : q.take p.length = p) : underB q p = true := by
  unfold underB sameL
  rw [Bool.and_eq_true, decide_eq_true_eq, decide_eq_true_eq]
  exact ⟨h1, h2⟩
theorem cov_of {x : Lk} {p : List ByteArray} (h : covB x p = true) : x.pa = p ∨ (x.de = true ∧ x.pa.length < p.length ∧ p.take x.pa.length = x.pa) := by
  unfold covB at h
  rw [Bool.or_eq_true] at h
  rcases h with h | h
  · unfold sameL at h
    exact .inl (of_decide_eq_true h)
  · rw [Bool.and_eq_true] at h
    exact .inr ⟨h.1, under_of h.2⟩
theorem cov_same {x : Lk} {p : List ByteArray} (h : x.pa = p) : covB x p = true := by
  unfold covB sameL
  rw [decide_eq_true h]; rfl
theorem cov_deep {x : Lk} {p : List ByteArray} (h : x.de = true) (h1 : x.pa.length < p.length) (h2 : p.take x.pa.length = x.pa) : covB x p = true := by
  unfold covB
  rw [h, under_mk h1 h2]; simp
theorem cov_two {x y : Lk} {p : List ByteArray} (hx : covB x p = true) (hy : covB y p = true) : covB x y.pa = true ∨ covB y x.pa = true := by
  rcases cov_of hx with e1 | ⟨d1, l1, t1⟩
  · right; rw [e1]; exact hy
  · rcases cov_of hy with e2 | ⟨d2, l2, t2⟩
    · left; rw [e2]; exact hx
    · rcases Nat.lt_trichotomy x.pa.length y.pa.length with h | h | h
      · left
        refine cov_deep d1 h ?_
        rw [← t2, List.take_take, Nat.min_eq_left (by omega), t1]
      · left
        refine cov_same ?_
        rw [← t1, ← t2, h]
      · right
        refine cov_deep d2 h ?_
        rw [← t1, List.take_take, Nat.min_eq_left (by omega), t2]
theorem locks_pair {l : List Lk} (h : locksB l = true) : l.Pairwise (fun a b => barB a b = false) := by
  rw [List.pairwise_iff_getElem]
  intro i j hi hj hij
  rw [Bool.eq_false_iff]
  intro e
  rw [locksB_bar i j hij hj e] at h
  cases h
theorem bar_sh {x y : Lk} {p : List ByteArray} (h : barB x y = false) (hx : covB x p = true) (hy : covB y p = true) : x.sh = true ∧ y.sh = true := by
  unfold barB clashB at h
  rw [Bool.or_eq_false_iff, Bool.and_eq_false_iff] at h
  rcases h.2 with h2 | h2
  · rw [Bool.or_eq_false_iff] at h2
    exact ⟨by simpa using h2.1, by simpa using h2.2⟩
  · rw [Bool.or_eq_false_iff] at h2
    rcases cov_two hx hy with e | e
    · rw [h2.1] at e; cases e
    · rw [h2.2] at e; cases e
/-- Those that cover a path. -/
def covL (l : List Lk) (p : List ByteArray) : List Lk := l.filter fun x => covB x p
theorem covL_cov {l : List Lk} {p : List ByteArray} {x : Lk} (h : x ∈ covL l p) : covB x p = true := (List.mem_filter.1 h).2
theorem alone_one {l : List Lk} {p : List ByteArray} (h : locksB l = true) (ha : (covL l p).any (fun x => !x.sh) = true) : (covL l p).length = 1 := by
  have hp : (covL l p).Pairwise (fun a b => barB a b = false) := (locks_pair h).sublist List.filter_sublist
  have hc : ∀ x ∈ covL l p, covB x p = true := fun x hx => covL_cov hx
  generalize covL l p = f at *
  match f, hp, hc, ha with
  | [], _, _, ha => simp at ha
  | [a], _, _, _ => rfl
  | a :: b :: r, hp, hc, ha =>
    exfalso
    rw [List.pairwise_cons] at hp
    have key : ∀ y ∈ b :: r, a.sh = true ∧ y.sh = true := fun y hy => bar_sh (hp.1 y hy) (hc a (by simp)) (hc y (List.mem_cons_of_mem _ hy))
    rw [List.any_eq_true] at ha
    obtain ⟨x, hx, hs⟩ := ha
    rcases List.mem_cons.1 hx with rfl | hx
    · rw [(key b (by simp)).1] at hs; cases hs
    · rw [(key x hx).2] at hs; cases hs
theorem touch_cov (p : List ByteArray) : touchB p false = fun x => covB x p := by
  funext x
  simp [touchB]
theorem may_none (l : List Lk) (p : List ByteArray) : mayB l p false [] = decide ((covL l p).length = 0) := by
  unfold mayB covL
  rw [touch_cov]
  generalize (l.filter fun x => covB x p) = f
  cases f with
  | nil => rfl
  | cons a r => cases h : a.sh <;> simp [hasB, h]
theorem may_own (l : List Lk) (p : List ByteArray) : mayB l p false (tokL l p) = true := by
  unfold mayB tokL
  rw [touch_cov]
  generalize (l.filter fun x => covB x p) = f
  have hh : ∀ x ∈ f, hasB (f.map (·.tk)) x = true := fun x hx => by
    unfold hasB
    rw [List.any_eq_true]
    exact ⟨x.tk, List.mem_map_of_mem hx, by simp⟩
  rw [Bool.and_eq_true]
  refine ⟨List.all_eq_true.2 (fun x hx => by rw [hh x hx, Bool.or_true]), ?_⟩
  cases e : f.any (·.sh)
  · rfl
  · rw [List.any_eq_true] at e
    obtain ⟨x, hx, hs⟩ := e
    have : f.any (fun x => x.sh && hasB (f.map (·.tk)) x) = true := List.any_eq_true.2 ⟨x, hx, by rw [hs, hh x hx]; rfl⟩
    rw [this]; rfl
theorem tokL_len (l : List Lk) (p : List ByteArray) : (tokL l p).length = (covL l p).length := by unfold tokL covL; rw [List.length_map]
/-- One more of them. -/
theorem covL_next (l : List Lk) (p : List ByteArray) (k : Nat) (hk : k < l.length) : covL (l.take (k + 1)) p = if covB l[k] p = true then covL (l.take k) p ++ [l[k]] else covL (l.take k) p := by
  unfold covL
  rw [List.take_succ_eq_append_getElem hk, List.filter_append]
  by_cases h : covB l[k] p = true
  · rw [if_pos h]; simp [h]
  · rw [if_neg h]; simp [h]
end Go.Proofs.Ytmgikfeknmbpbaa.M
namespace Go.Proofs.Ytmgikfeknmbpbaa
open Go.RowKit
set_option linter.unusedVariables false

set_option maxHeartbeats 400000 in
theorem slicesEqual_any (a b : Option Addr) (ss tt : List ByteArray) (cap cap' B C : Nat) (w : World) (h : Strs w B a ss) (h' : Strs w C b tt) (hl : ss.length ≤ maxLen) (hl' : tt.length ≤ maxLen) :
    Calls Try.prog 82 #[.slice a ss.length cap, .slice b tt.length cap'] w fun e w' => e = .returned (.bool (sameL ss tt)) ∧ ∀ D, Below D w w' := by
  unfold maxLen at hl hl'
  by_cases hlen : ss.length = tt.length
  · have HL : Hid (ss.length = tt.length) := hlen
    go_enter Try.func82, Try.ntmps82
    rw [← hlen]
    clear hlen
    go_wp2
    go_loopw [13] (fun i wr => ∃ k n : Nat, k ≤ ss.length ∧ i = .int .i64 k ∧ ss.take k = tt.take k ∧ wr = w.drewN n) (fun i _ => ss.length - (intOf i).toNat)
    case atStart => exact ⟨0, 0, Nat.zero_le _, rfl, rfl, rfl⟩
    case round =>
      obtain ⟨k, n, hk, rfl, ht, rfl⟩ := hrel
      have HT : Hid (ss.take k = tt.take k) := ht
      clear ht
      by_cases hlt : k < ss.length
      · have hlt' : k < tt.length := by have := HL.out; omega
        obtain ⟨b1, o1, rfl, hb1, hc1⟩ := h (by omega)
        obtain ⟨b2, o2, rfl, hb2, hc2⟩ := h' (by have := HL.out; omega)
        have hcx := hc1 k hlt
        have hcy := hc2 k hlt'
        go_wp2
        go_quiet (fail)
        go_wp2
        · rename_i hne
          have hne' : ¬ ss[k] = tt[k] := fun e => by rw [e] at hne; simp at hne
          go_ret
          exact ⟨ret_bool (sameL_not k hlt hlt' hne').symm, fun D => below_drewN (below_drewN (Below.refl _ _) _) _⟩
        · rename_i he
          have he' : ss[k] = tt[k] := str_inj (by simpa using he)
          go_roundw
          case rel => exact ⟨k + 1, n + nq, by omega, by go_num, take_same k hlt hlt' HT.out he', by simp⟩
          case measure => simp [intOf]; omega
      · go_wp2
        go_ret
        exact ⟨ret_bool (sameL_all HL.out k hlt HT.out).symm, fun D => below_drewN (Below.refl _ _) _⟩
  · have HS := sameL_len hlen
    go_enter Try.func82, Try.ntmps82
    go_wp2
    go_ret
    exact ⟨ret_bool HS.symm, fun D => Below.refl _ _⟩
end Go.Proofs.Ytmgikfeknmbpbaa
namespace Go.Proofs.Ytmgikfeknmbpbaa
open Go.RowKit
set_option linter.unusedVariables false

set_option maxHeartbeats 400000 in
theorem under_any (a b : Option Addr) (ss tt : List ByteArray) (cap cap' B C : Nat) (w : World) (h : Strs w B a ss) (h' : Strs w C b tt) (hl : ss.length ≤ maxLen) (hl' : tt.length ≤ maxLen) (hc : ss.length ≤ cap) (hc' : cap ≤ maxLen) :
    Calls Try.prog 59 #[.slice a ss.length cap, .slice b tt.length cap'] w fun e w' => e = .returned (.bool (underB ss tt)) ∧ ∀ D, Below D w w' := by
  have hl1 := hl
  have hl2 := hl'
  have hc2 := hc'
  unfold maxLen at hl hl' hc'
  by_cases hlt : tt.length < ss.length
  · have ht : (ss.take tt.length).length = tt.length := by rw [List.length_take]; omega
    have cE := fun w1 cap1 (hh : Strs w1 B a ss) (hh' : Strs w1 C b tt) => slicesEqual_any a b (ss.take tt.length) tt cap1 cap' B C w1 (hh.take _) hh' (by omega) hl2
    rw [ht] at cE
    obtain ⟨b1, o1, rfl, _, _⟩ := h (by omega)
    go_enter Try.func59, Try.ntmps59
    go_wp2_with fail
    refine (cE _ _ h h').mono ?_
    rintro e w1 ⟨rfl, hb⟩
    go_wp2
    go_ret
    exact ⟨ret_bool (by simp [underB, hlt]), hb⟩
  · go_enter Try.func59, Try.ntmps59
    go_wp2
    go_ret
    exact ⟨ret_bool (by simp [underB, hlt]), fun D => Below.refl _ _⟩

end Go.Proofs.Ytmgikfeknmbpbaa
namespace Go.Proofs.Ytmgikfeknmbpbaa
open Go.RowKit
set_option linter.unusedVariables false

set_option maxHeartbeats 400000 in
theorem samePath_any (a b : Option Addr) (ss tt : List ByteArray) (cap cap' B C : Nat) (w : World) (h : Strs w B a ss) (h' : Strs w C b tt) (hl : ss.length ≤ maxLen) (hl' : tt.length ≤ maxLen) :
    Calls Try.prog 58 #[.slice a ss.length cap, .slice b tt.length cap'] w fun e w' => e = .returned (.bool (sameL ss tt)) ∧ ∀ D, Below D w w' := by
  go_enter Try.func58, Try.ntmps58
  go_wp2_with fail
  refine (slicesEqual_any a b ss tt cap cap' B C w h h' hl hl').mono ?_
  rintro e w1 ⟨rfl, hb⟩
  go_wp2
  go_ret
  exact ⟨rfl, hb⟩
end Go.Proofs.Ytmgikfeknmbpbaa
namespace Go.Proofs.Ytmgikfeknmbpbaa
open Go.RowKit M
set_option linter.unusedVariables false

set_option maxHeartbeats 1000000 in
theorem covers_any (r : Lk) (pa : Option Addr) (pc : Nat) (a : Option Addr) (ss : List ByteArray) (cap B C : Nat) (w : World) (h : LkIn w B r pa pc) (hB : B ≤ w.heap.size) (h' : Strs w C a ss) (hC : C ≤ w.heap.size) (hl : ss.length ≤ cap) (hm : cap ≤ maxLen) :
    Calls Try.prog 19 #[.agg #[.int .i64 r.tk, .slice pa r.pa.length pc, .bool r.de, .bool r.sh, .int .i64 r.un], .slice a ss.length cap] w fun e w' => e = .returned (.bool (covB r ss)) ∧ Below w.heap.size w w' := by
  have l1 := h.len
  have p1 := h.ph
  have l2 : ss.length ≤ maxLen := Nat.le_trans hl hm
  have F1 : Hid (sameL r.pa ss = true → covB r ss = true) := fun e => by unfold covB; rw [e]; rfl
  have F2 : Hid (sameL r.pa ss = false → r.de = false → covB r ss = false) := fun e e' => by unfold covB; rw [e, e']; rfl
  have F3 : Hid (sameL r.pa ss = false → r.de = true → covB r ss = underB ss r.pa) := fun e e' => by unfold covB; rw [e, e']; rfl
  generalize covB r ss = dd at *
  clear h
  obtain ⟨tk, tt, de, sh, un⟩ := r
  simp only at *
  have hb0 : Below w.heap.size w (w.alloc (Obj.cells #[.int .i64 tk, .slice pa tt.length pc, .bool de, .bool sh, .int .i64 un] 27)) := (Below.refl _ _).alloc (Nat.le_refl _) _
  have hS := samePath_any pa a tt ss pc cap B C _ (p1.below hb0 hB) (h'.below hb0 hC) l1 l2
  have HU := hide (fun w1 (hb : ∀ D, Below D (w.alloc (Obj.cells #[.int .i64 tk, .slice pa tt.length pc, .bool de, .bool sh, .int .i64 un] 27)) w1) => under_any a pa ss tt cap pc C B w1 ((h'.below hb0 hC).below (hb _) (Nat.le_refl _)) ((p1.below hb0 hB).below (hb _) (Nat.le_refl _)) l2 l1 hl hm)
  have HB0 := hide hb0
  clear hb0 p1 h'
  obtain ⟨z, hz⟩ : ∃ z, sameL tt ss = z := ⟨_, rfl⟩
  rw [hz] at hS
  have HS := hide hS
  clear hS
  cases z
  · cases de
    · rw [F2.out hz rfl]
      clear hz
      go_enter Try.func19, Try.ntmps19
      go_wp2_with fail
      refine HS.out.mono ?_
      rintro e w1 ⟨rfl, hb1⟩
      have hcl : ∀ b o, w1.cell? ⟨b, o, none⟩ = _ := fun b o => (hb1 (b + 1)).cell (p := ⟨b, o, none⟩) (Nat.lt_succ_self _)
      have HC1 := hide (HB0.out.trans (hb1 _))
      clear hb1
      go_wp2
      go_ret
      exact ⟨rfl, HC1.out⟩
    · rw [F3.out hz rfl]
      clear hz
      go_enter Try.func19, Try.ntmps19
      go_wp2_with fail
      refine HS.out.mono ?_
      rintro e w1 ⟨rfl, hb1⟩
      have hcl : ∀ b o, w1.cell? ⟨b, o, none⟩ = _ := fun b o => (hb1 (b + 1)).cell (p := ⟨b, o, none⟩) (Nat.lt_succ_self _)
      have HC1 := hide (HB0.out.trans (hb1 _))
      have HU1 := hide (HU.out w1 hb1)
      clear hb1
      go_wp2_with fail
      refine HU1.out.mono ?_
      rintro e w2 ⟨rfl, hb2⟩
      have c2 := HC1.out.trans (hb2 _)
      go_wp2
      go_ret
      exact ⟨rfl, c2⟩
  · rw [F1.out hz]
    clear hz
    go_enter Try.func19, Try.ntmps19
    go_wp2_with fail
    refine HS.out.mono ?_
    rintro e w1 ⟨rfl, hb1⟩
    have HC1 := hide (HB0.out.trans (hb1 _))
    clear hb1
    go_wp2
    go_ret
    exact ⟨rfl, HC1.out⟩
end Go.Proofs.Ytmgikfeknmbpbaa
namespace Go.Proofs.Ytmgikfeknmbpbaa
open Go.RowKit M
set_option linter.unusedVariables false

set_option maxHeartbeats 2000000 in
theorem lockClash_any (r : Lk) (pa : Option Addr) (pc : Nat) (s : Lk) (qa : Option Addr) (qc B C : Nat) (w : World) (h : LkIn w B r pa pc) (hB : B ≤ w.heap.size) (h' : LkIn w C s qa qc) (hC : C ≤ w.heap.size) :
    Calls Try.prog 12 #[.agg #[.int .i64 r.tk, .slice pa r.pa.length pc, .bool r.de, .bool r.sh, .int .i64 r.un], .agg #[.int .i64 s.tk, .slice qa s.pa.length qc, .bool s.de, .bool s.sh, .int .i64 s.un]] w fun e w' => e = .returned (.bool (clashB r s)) ∧ Below w.heap.size w w' := by
  have F0 : Hid (r.sh = true → s.sh = true → clashB r s = false) := fun e e' => by unfold clashB; rw [e, e']; rfl
  have F1 : Hid ((!r.sh || !s.sh) = true → covB r s.pa = true → clashB r s = true) := fun e e' => by unfold clashB; rw [e, e']; rfl
  have F2 : Hid ((!r.sh || !s.sh) = true → covB r s.pa = false → clashB r s = covB s r.pa) := fun e e' => by unfold clashB; rw [e, e']; rfl
  have hb0 : Below w.heap.size w ((w.alloc (Obj.cells #[.int .i64 r.tk, .slice pa r.pa.length pc, .bool r.de, .bool r.sh, .int .i64 r.un] 27)).alloc (Obj.cells #[.int .i64 s.tk, .slice qa s.pa.length qc, .bool s.de, .bool s.sh, .int .i64 s.un] 27)) := ((Below.refl _ _).alloc (Nat.le_refl _) _).alloc (by simp) _
  have hS := covers_any r pa pc qa s.pa qc B C _ (h.below hb0 hB) (Nat.le_trans hB hb0.size) (h'.ph.below hb0 hC) (Nat.le_trans hC hb0.size) h'.pl h'.pm
  have HU := hide (fun w1 (hb : Below w.heap.size w w1) => covers_any s qa qc pa r.pa pc C B w1 (h'.below hb hC) (Nat.le_trans hC hb.size) (h.ph.below hb hB) (Nat.le_trans hB hb.size) h.pl h.pm)
  have HB0 := hide hb0
  obtain ⟨z1, hz1⟩ : ∃ z, covB r s.pa = z := ⟨_, rfl⟩
  obtain ⟨z2, hz2⟩ : ∃ z, covB s r.pa = z := ⟨_, rfl⟩
  rw [hz1] at hS F1 F2
  rw [hz2] at HU F2
  generalize clashB r s = dd at *
  clear hb0 h h' hz1 hz2
  obtain ⟨tk, ss, de, sh, un⟩ := r
  obtain ⟨tk', ss', de', sh', un'⟩ := s
  simp only at *
  have HS := hide hS
  clear hS
  by_cases hsh : (!sh || !sh') = true
  · have hdd : dd = if z1 = true then true else z2 := by
      cases z1
      · rw [F2.out hsh rfl]; rfl
      · rw [F1.out hsh rfl]; rfl
    clear F0 F1 F2
    have hsh2 : sh = false ∨ (sh = true ∧ sh' = false) := by cases sh <;> cases sh' <;> simp_all
    clear hsh
    rcases hsh2 with rfl | ⟨rfl, rfl⟩
    all_goals
      cases z1
      · obtain rfl : dd = z2 := by simpa using hdd
        clear hdd
        go_enter Try.func12, Try.ntmps12
        go_wp2_with fail
        refine HS.out.mono ?_
        rintro e w1 ⟨rfl, hb1⟩
        obtain ⟨hcl, _⟩ := bcellL hb1
        have HC1 := hide (HB0.out.trans (hb1.mono HB0.out.size))
        have HU1 := hide (HU.out w1 HC1.out)
        clear hb1
        go_wp2_with fail
        refine HU1.out.mono ?_
        rintro e w2 ⟨rfl, hb2⟩
        have c2 := HC1.out.trans (hb2.mono HC1.out.size)
        go_wp2
        go_ret
        exact ⟨rfl, c2⟩
      · obtain rfl : dd = true := by simpa using hdd
        clear hdd
        go_enter Try.func12, Try.ntmps12
        go_wp2_with fail
        refine HS.out.mono ?_
        rintro e w1 ⟨rfl, hb1⟩
        have HC1 := hide (HB0.out.trans (hb1.mono HB0.out.size))
        clear hb1
        go_wp2
        go_ret
        exact ⟨rfl, HC1.out⟩
  · have hsh2 : sh = true ∧ sh' = true := by cases sh <;> cases sh' <;> simp_all
    obtain ⟨rfl, rfl⟩ := hsh2
    rw [F0.out rfl rfl]
    clear hsh
    go_enter Try.func12, Try.ntmps12
    go_wp2
    go_ret
    exact ⟨rfl, HB0.out⟩
end Go.Proofs.Ytmgikfeknmbpbaa
namespace Go.Proofs.Ytmgikfeknmbpbaa
open Go.RowKit M
set_option linter.unusedVariables false

set_option maxHeartbeats 1000000 in
theorem barEach_any (r : Lk) (pa : Option Addr) (pc : Nat) (s : Lk) (qa : Option Addr) (qc B C : Nat) (w : World) (h : LkIn w B r pa pc) (hB : B ≤ w.heap.size) (h' : LkIn w C s qa qc) (hC : C ≤ w.heap.size) :
    Calls Try.prog 50 #[.agg #[.int .i64 r.tk, .slice pa r.pa.length pc, .bool r.de, .bool r.sh, .int .i64 r.un], .agg #[.int .i64 s.tk, .slice qa s.pa.length qc, .bool s.de, .bool s.sh, .int .i64 s.un]] w fun e w' => e = .returned (.bool (barB r s)) ∧ Below w.heap.size w w' := by
  have hb0 : Below w.heap.size w ((w.alloc (Obj.cells #[.int .i64 r.tk, .slice pa r.pa.length pc, .bool r.de, .bool r.sh, .int .i64 r.un] 27)).alloc (Obj.cells #[.int .i64 s.tk, .slice qa s.pa.length qc, .bool s.de, .bool s.sh, .int .i64 s.un] 27)) := ((Below.refl _ _).alloc (Nat.le_refl _) _).alloc (by simp) _
  have HS := hide (lockClash_any r pa pc s qa qc B C _ (h.below hb0 hB) (Nat.le_trans hB hb0.size) (h'.below hb0 hC) (Nat.le_trans hC hb0.size))
  have HB0 := hide hb0
  clear hb0 h h'
  by_cases htk : r.tk = s.tk
  · rw [bar_tk htk]
    have hv : (r.tk == s.tk) = true := by rw [htk]; simp
    clear htk
    go_enter Try.func50, Try.ntmps50
    go_wp2
    go_ret
    exact ⟨rfl, HB0.out⟩
  · rw [bar_cl htk]
    have hv : (r.tk == s.tk) = false := by rw [beq_eq_false_iff_ne]; exact htk
    clear htk
    go_enter Try.func50, Try.ntmps50
    go_wp2_with fail
    refine HS.out.mono ?_
    rintro e w1 ⟨rfl, hb1⟩
    have c1 := HB0.out.trans (hb1.mono HB0.out.size)
    go_wp2
    go_ret
    exact ⟨rfl, c1⟩

/-- Whether no two of them bar each other. -/
def noTwoB (l : List Lk) : Prop := ∀ i k (hk : k < i) (hi : i < l.length), barB (l[k]'(by omega)) l[i] = false

set_option maxRecDepth 100000 in
set_option maxHeartbeats 4000000 in
theorem noTwo_any (a : Option Addr) (l : List Lk) (cap B : Nat) (w : World) (h : Lks w B a l) (hB : B ≤ w.heap.size) (hl : l.length ≤ cap) (hm : cap ≤ maxLen) :
    Calls Try.prog 49 #[.slice a l.length cap, .func (.func 50) #[] #[]] w fun e w' => (∃ z : Bool, e = .returned (.bool z) ∧ (z = true → noTwoB l) ∧ (z = false → ∃ k i, ∃ (hk : k < i) (hi : i < l.length), barB (l[k]'(by omega)) l[i] = true)) ∧ Below w.heap.size w w' := by
  unfold maxLen at hm
  have HH := hide h
  clear h
  go_enter Try.func49, Try.ntmps49
  go_wp2
  go_loopw [11] (fun iv wr => ∃ i : Nat, i ≤ l.length ∧ iv = .int .i64 i ∧ Hid (∀ j k (hk : k < j) (hj : j < l.length), j < i → barB (l[k]'(by omega)) l[j] = false) ∧ Below w.heap.size w wr) (fun iv _ => l.length - (intOf iv).toNat)
  case atStart => exact ⟨0, Nat.zero_le _, rfl, fun j _ _ _ hj => absurd hj (Nat.not_lt_zero _), Below.refl _ _⟩
  case round =>
    obtain ⟨i, hi, rfl, ht2, hbe⟩ := hrel
    by_cases hlt : i < l.length
    · obtain ⟨b, o, rfl, hb, hc⟩ := (HH.out.below hbe hB) (by omega)
      obtain ⟨pa, pc, ⟨hc0, hc1, hc2, hc3, hc4⟩, hin⟩ := hc i hlt
      obtain ⟨wo, hwo⟩ : ∃ wo : World, wo = wr := ⟨_, rfl⟩
      subst hwo
      have b1 := (Below.refl wo.heap.size wo).alloc (Nat.le_refl _) (Obj.cells #[.int .i64 l[i].tk, .slice pa l[i].pa.length pc, .bool l[i].de, .bool l[i].sh, .int .i64 l[i].un] 27)
      have HBX := hide (BoxL.made wo l[i] pa pc 27)
      have HCA := hide (hbe.alloc hbe.size (Obj.cells #[.int .i64 l[i].tk, .slice pa l[i].pa.length pc, .bool l[i].de, .bool l[i].sh, .int .i64 l[i].un] 27))
      have HIN := hide (hin.below b1 (Nat.le_trans hB hbe.size))
      clear hc hin b1
      have hic : (i : Int) ≤ cap := by omega
      have hi0 : (0 : Int) ≤ (i : Int) := by omega
      go_wp2
      clear hc0 hc1 hc2 hc3 hc4
      go_loopw [20] (fun kv wz => ∃ k : Nat, k ≤ i ∧ kv = .int .i64 k ∧ Hid (∀ j (hj : j < i), j < k → barB (l[j]'(by omega)) l[i] = false) ∧ Hid (BoxL wz wo.heap.size l[i] pa pc) ∧ Hid (Below w.heap.size w wz) ∧ Hid (LkIn wz B l[i] pa pc)) (fun kv _ => i - (intOf kv).toNat)
      case atStart => exact ⟨0, Nat.zero_le _, rfl, fun j _ hj => absurd hj (Nat.not_lt_zero _), HBX, HCA, HIN⟩
      case round =>
        obtain ⟨k, hk, rfl, ht3, HBX2, HC2, HIN2⟩ := hrel
        by_cases hki : k < i
        · have hkl : k < l.length := by omega
          obtain ⟨b2, o2, e2, hb2, hc⟩ := (HH.out.below HC2.out hB) (by omega)
          cases e2
          obtain ⟨qa, qc, ⟨hx0, hx1, hx2, hx3, hx4⟩, hin1⟩ := hc k hkl
          have b3 := (Below.refl wr.heap.size wr).alloc (Nat.le_refl _) (Obj.cells #[.int .i64 l[k].tk, .slice qa l[k].pa.length qc, .bool l[k].de, .bool l[k].sh, .int .i64 l[k].un] 27)
          have c3 := HC2.out.trans (b3.mono HC2.out.size)
          have HB3 := hide (HBX2.out.alloc (Obj.cells #[.int .i64 l[k].tk, .slice qa l[k].pa.length qc, .bool l[k].de, .bool l[k].sh, .int .i64 l[k].un] 27))
          have HI3 := hide (HIN2.out.below b3 (Nat.le_trans hB HC2.out.size))
          have HS := hide (barEach_any l[k] qa qc l[i] pa pc B B _ (hin1.below b3 (Nat.le_trans hB HC2.out.size)) (Nat.le_trans hB c3.size) HI3.out (Nat.le_trans hB c3.size))
          have HC3 := hide c3
          obtain ⟨z, hz⟩ : ∃ z, barB l[k] l[i] = z := ⟨_, rfl⟩
          rw [hz] at HS
          have HZ := hide hz
          obtain ⟨_, y0, y1, y2, y3, y4⟩ := HB3.out
          clear hz hc hin1 b3 c3 HBX2 HIN2
          have hk0 : (0 : Int) ≤ (k : Int) := by omega
          have hk1 : (k : Int) < (i : Int) := by omega
          go_wp2_with fail
          refine HS.out.mono ?_
          rintro e w5 ⟨rfl, b5⟩
          have HB5 := hide (HB3.out.next b5)
          have HI5 := hide (HI3.out.below b5 (Nat.le_trans hB HC3.out.size))
          have HC5 := hide (HC3.out.trans (b5.mono HC3.out.size))
          clear b5 HB3 HI3 HC3 HS y0 y1 y2 y3 y4
          cases z
          · go_wp2
            go_roundw
            case rel => exact ⟨k + 1, by omega, by go_num, fun j hj hjk => if e : j = k then by subst e; exact HZ.out else ht3.out j hj (by omega), HB5, HC5, HI5⟩
            case measure => simp [intOf]; omega
          · go_wp2
            go_ret
            exact ⟨⟨false, rfl, fun e => absurd e (by decide), fun _ => ⟨k, i, hki, hlt, HZ.out⟩⟩, HC5.out⟩
        · have hke : k = i := by omega
          subst hke
          have HC2' := HC2
          go_wp2
          go_roundw
          case rel => exact ⟨k + 1, by omega, by go_num, fun j q hq hj hjk => if e : j = k then by subst e; exact ht3.out q hq hq else ht2.out j q hq hj (by omega), HC2'.out⟩
          case measure => simp [intOf]; omega
    · go_wp2
      go_ret
      exact ⟨⟨true, rfl, fun _ j q hq hj => ht2.out j q hq hj (by omega), fun e => absurd e (by decide)⟩, hbe⟩

set_option maxRecDepth 100000 in
set_option maxHeartbeats 4000000 in
theorem locksOk_any (a : Option Addr) (l : List Lk) (cap B : Nat) (w : World) (h : Lks w B a l) (hB : B ≤ w.heap.size) (hsh : ShortK l) (hl : l.length ≤ cap) (hm : cap ≤ maxLen) :
    Calls Try.prog 14 #[.slice a l.length cap] w fun e w' => e = .returned (.bool (locksB l)) ∧ Below w.heap.size w w' := by
  have hm2 := hm
  unfold maxLen at hm2
  have HH := hide h
  clear h
  by_cases h6 : l.length ≤ 6
  rotate_left
  · have HF := hide (locksB_long h6)
    go_enter Try.func14, Try.ntmps14
    go_wp2
    go_ret
    exact ⟨ret_bool HF.out.symm, Below.refl _ _⟩
  · go_enter Try.func14, Try.ntmps14
    go_wp2
    go_loopw [10] (fun iv wr => ∃ i : Nat, i ≤ l.length ∧ iv = .int .i64 i ∧ Hid (∀ j (hj : j < l.length), j < i → lockB l[j] = true) ∧ Below w.heap.size w wr) (fun iv _ => l.length - (intOf iv).toNat)
    case atStart => exact ⟨0, Nat.zero_le _, rfl, fun j _ hj => absurd hj (Nat.not_lt_zero _), Below.refl _ _⟩
    case round =>
      obtain ⟨i, hi, rfl, ht1, hbe⟩ := hrel
      by_cases hlt : i < l.length
      · obtain ⟨b, o, rfl, hb, hc⟩ := (HH.out.below hbe hB) (by omega)
        obtain ⟨pa, pc, ⟨hc0, hc1, hc2, hc3, hc4⟩, hin⟩ := hc i hlt
        have b1 := (Below.refl wr.heap.size wr).alloc (Nat.le_refl _) (Obj.cells #[.int .i64 l[i].tk, .slice pa l[i].pa.length pc, .bool l[i].de, .bool l[i].sh, .int .i64 l[i].un] 27)
        have c1 := hbe.trans (b1.mono hbe.size)
        have HC := hide (lockOk_any l[i] pa pc B _ (hin.below b1 (Nat.le_trans hB hbe.size)) (Nat.le_trans hB c1.size) (hsh.at i hlt).ps)
        have HC1 := hide c1
        obtain ⟨z, hz⟩ : ∃ z, lockB l[i] = z := ⟨_, rfl⟩
        rw [hz] at HC
        have HZ := hide hz
        clear hz hc hin b1 c1
        go_wp2_with fail
        refine HC.out.mono ?_
        rintro e w1 ⟨rfl, hb1⟩
        have c2 := HC1.out.trans (hb1.mono HC1.out.size)
        clear HC hb1 HC1 hc0 hc1 hc2 hc3 hc4
        cases z
        · have HF := hide (locksB_not i hlt HZ.out)
          go_wp2
          go_ret
          exact ⟨ret_bool HF.out.symm, c2⟩
        · go_wp2
          go_roundw
          case rel => exact ⟨i + 1, by omega, by go_num, fun j hj hjk => if e : j = i then by subst e; exact HZ.out else ht1.out j hj (by omega), c2⟩
          case measure => simp [intOf]; omega
      · have HN := hide (noTwo_any a l cap B wr (HH.out.below hbe hB) (Nat.le_trans hB hbe.size) hl hm)
        have HT := hide (fun j hj => ht1.out j hj (by omega))
        clear ht1
        go_wp2_with fail
        refine HN.out.mono ?_
        rintro e w1 ⟨⟨z, rfl, hz1, hz2⟩, hb1⟩
        have c2 := hbe.trans (hb1.mono hbe.size)
        cases z
        · obtain ⟨k, j, hk, hj, hbar⟩ := hz2 rfl
          have HF := hide (locksB_bar k j hk hj hbar)
          clear hz1 hz2 hbar
          go_wp2
          go_ret
          exact ⟨ret_bool HF.out.symm, c2⟩
        · have HF := hide (locksB_yes h6 (fun j hj => HT.out j hj) (fun j q hq hj => hz1 rfl j q hq hj))
          clear hz1 hz2
          go_wp2
          go_ret
          exact ⟨ret_bool HF.out.symm, c2⟩
end Go.Proofs.Ytmgikfeknmbpbaa
