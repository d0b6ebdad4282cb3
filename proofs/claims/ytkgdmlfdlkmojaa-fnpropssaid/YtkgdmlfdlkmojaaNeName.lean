/-
  What is known, sets, and names that are drawn.
  What the program's allOf does: whether all bytes of a text are of one of these kinds.
  What the program's Plain does.
  What SmallName (the program's) does.
  Slices of texts: what they hold, and that it stays.
  What cmp.Compare[string] does.
  What impl.propOk, cmp.Or[int] and impl.lessProp do.
  What impl.lessProp does.
  What slices.IndexFunc at what is known and impl.placeOf do.
  What impl.nameOfProp does.
  Two names held against one another.
-/
import Derived.Test.YtkgdmlfdlkmojaaDrawSets
import Derived.Test.YtkgdmlfdlkmojaaSpecSm
import Derived.Test.YtkgdmlfdlkmojaaRows
import Derived.WalkKit
import Derived.WalkSpells
import Derived.WalkLawsBesides
import Derived.Deep.Light
import Derived.Deep.QuietTactic
import Derived.Deep.OwnRows
import Derived.Test.YtkgdmlfdlkmojaaHide
import Derived.Test.YtkgdmlfdlkmojaaProps
import Derived.Deep.RegionHeld3
import Derived.Laws.StructEq
namespace Go.Proofs.Ytkgdmlfdlkmojaa
open Go.RowKit M
set_option linter.unusedVariables false

/-- Few of what is known, each short. -/
def FewQ (ps : List Pp) : Prop := ps.length ≤ 5 ∧ ∀ p ∈ ps, p.1.size ≤ 60 ∧ p.2.1.size ≤ 60 ∧ p.2.2.size ≤ 60
theorem FewQ.of_props {ps : List Pp} (h : propsB ps = true) : ps.length ≤ 4 ∧ FewQ ps := by
  obtain ⟨h1, h2⟩ := props_few h
  exact ⟨h1, by omega, fun p hp => prop_short (h2 p hp)⟩
theorem FewQ.snoc {ps : List Pp} {p : Pp} (h1 : ps.length ≤ 4) (h : FewQ ps) (hp : FewP p) : FewQ (ps ++ [p]) := ⟨by simp; omega, fun q hq => by
  rcases List.mem_append.1 hq with hq | hq
  · exact h.2 q hq
  · have e : q = p := by simpa using hq
    rw [e]; obtain ⟨a, b, c⟩ := hp; exact ⟨by omega, by omega, by omega⟩⟩
def nsY : List ByteArray := [⟨#[122]⟩, ⟨#[1]⟩, ⟨#[116, 119, 101, 110, 116, 121, 45, 111, 110, 101, 45, 98, 121, 116, 101, 115, 45, 116, 101, 120, 116]⟩]
def nmY : List ByteArray := [⟨#[97]⟩, ⟨#[65]⟩]
def vlY : List ByteArray := [⟨#[]⟩, ⟨#[116, 119, 101, 110, 116, 121, 45, 111, 110, 101, 45, 98, 121, 116, 101, 115, 45, 116, 101, 120, 116]⟩]

set_option maxRecDepth 100000 in
set_option maxHeartbeats 4000000 in
theorem drawPropsOk_any {w : World} {B : Nat} {a : Option Addr} {len : Nat} {zs : List Int} (h : CodeIn w B a len zs) (cap : Nat) :
    Calls Try.prog 35 #[.slice a len cap] w fun e w' => (∃ (ps : List Pp) (g n c : Nat), FewQ ps ∧ n = ps.length ∧ e = .returned (.slice (some ⟨g, 0, none⟩) n c) ∧ OwnQ w' w.heap.size (.slice (some ⟨g, 0, none⟩) n c) ps) ∧ Below w.heap.size w w' := by
  have HC := hide h
  clear h
  go_enter Try.func35, Try.ntmps35
  go_wp2_with fail
  refine (newDC HC.out cap).mono ?_
  rintro e w1 ⟨rfl, hd1, b1⟩
  have hN1 : w.heap.size < w1.heap.size := hd1.lt
  have HD1 : Hid (DX w1 w.heap.size a len cap zs) := ⟨_, hd1⟩
  clear hd1
  go_wp2_with fail
  refine (l10Props_any HD1.out).mono ?_
  rintro e w2 ⟨⟨ps, g, n, c, hps, hn, rfl, hO2⟩, hd2, hg2⟩
  have HN := hide hn
  have HFQ := hide (FewQ.of_props hps)
  have hp4 : ps.length ≤ 4 := HFQ.out.1
  have HD2 := hide hd2
  have HG2 := hide hg2
  clear hn hps hd2 hg2 HD1
  go_wp2_with fail
  refine (l1OnceQ HD2.out 2 (by decide) (by decide)).mono ?_
  rintro e w3 ⟨⟨b, rfl⟩, hd3, hg3⟩
  have hO3 := hO2.grown hg3 hN1
  have HD3 := hide hd3
  have HG3 := hide (grown_trans HG2.out hg3)
  clear hd3 hg3 hO2 HD2 HG2
  cases b
  · have HB := hide (b1.trans (grown_below HG3.out (Nat.le_refl _) (by omega)))
    have HO := hide (hO3.base (C := w.heap.size) (by omega))
    go_wp2
    go_ret
    exact ⟨⟨ps, g, n, c, HFQ.out.2, HN.out, rfl, HO.out⟩, HB.out⟩
  · go_wp2_with fail
    refine (strNewQ HD3.out 30 nsY _ _ 3 _ rfl rfl rfl (by decide) (by decide) (by decide)).mono ?_
    rintro e w4 ⟨⟨s1, rfl, hs1⟩, hd4, hg4⟩
    have hO4 := hO3.grown hg4 hN1
    have HD4 := hide hd4
    have HG4 := hide (grown_trans HG3.out hg4)
    clear hd4 hg4 hO3 HD3 HG3
    go_wp2_with fail
    refine (strNewQ HD4.out 30 nmY _ _ 2 _ rfl rfl rfl (by decide) (by decide) (by decide)).mono ?_
    rintro e w5 ⟨⟨s2, rfl, hs2⟩, hd5, hg5⟩
    have hO5 := hO4.grown hg5 hN1
    have HD5 := hide hd5
    have HG5 := hide (grown_trans HG4.out hg5)
    clear hd5 hg5 hO4 HD4 HG4
    go_wp2_with fail
    refine (strNewQ HD5.out 30 vlY _ _ 2 _ rfl rfl rfl (by decide) (by decide) (by decide)).mono ?_
    rintro e w6 ⟨⟨s3, rfl, hs3⟩, hd6, hg6⟩
    have hO6 := hO5.grown hg6 hN1
    have HG6 := hide (grown_trans HG5.out hg6)
    have hsz := HG6.out.size
    have HOA := hide (hO6.alloc (Obj.cells #[.string s1, .string s2, .string s3] 36))
    have HGA := hide (grown_alloc HG6.out (Obj.cells #[.string s1, .string s2, .string s3] 36))
    have hszA := HGA.out.size
    have hln : ps.length + 1 ≤ 1099511627776 := by omega
    clear hd6 hg6 hO5 HD5 HG5 hO6
    go_wp2_with (at_builtin; refine wp_append_prop rfl _ _ rfl w1.heap.size _ ps rfl HOA.out _ (s1, s2, s3) rfl ?_ ?_ ?_ hln hszA ?_)
    intro g7 n7 c7 w7 hn7 hO7 hb7
    have HG7 := hide (grown_belowQ HGA.out hb7 (Nat.le_refl _))
    have HB := hide (b1.trans (grown_below HG7.out (Nat.le_refl _) (by omega)))
    have HO := hide (hO7.base (C := w.heap.size) (by omega))
    have HN7 := hide hn7
    have HF7 := hide (FewQ.snoc HFQ.out.1 HFQ.out.2 (p := (s1, s2, s3)) ⟨hs1, hs2, hs3⟩)
    clear hb7 hn7 hO7
    go_wp2
    go_ret
    exact ⟨⟨_, g7, n7, c7, HF7.out, by rw [HN7.out, List.length_append]; rfl, rfl, HO.out⟩, HB.out⟩

set_option maxRecDepth 100000 in
set_option maxHeartbeats 4000000 in
theorem drawSetProps_any {w : World} {B : Nat} {a : Option Addr} {len : Nat} {zs : List Int} (h : CodeIn w B a len zs) (cap : Nat) (hB : B ≤ w.heap.size) :
    Calls Try.prog 8 #[.slice a len cap] w fun e w' => (∃ (ps : List Pp) (g n c : Nat) (ss : List Sx) (g2 n2 c2 : Nat), FewQ ps ∧ n = ps.length ∧ FewS 8 ss ∧ n2 = ss.length ∧ e = .returned (.tuple #[.slice (some ⟨g, 0, none⟩) n c, .slice (some ⟨g2, 0, none⟩) n2 c2]) ∧ Pps w' w'.heap.size (some ⟨g, 0, none⟩) ps ∧ (n ≤ c ∧ c ≤ maxLen) ∧ Sts w' w'.heap.size (some ⟨g2, 0, none⟩) ss) ∧ Below w.heap.size w w' := by
  have HC := hide h
  clear h
  go_enter Try.func8, Try.ntmps8
  go_wp2_with fail
  refine (drawPropsOk_any HC.out cap).mono ?_
  rintro e w1 ⟨⟨ps, g, n, c, hf, hn, rfl, hO1⟩, b1⟩
  have HN := hide hn
  have HF := hide hf
  have HC1 := hide (HC.out.below (b1.mono hB))
  obtain ⟨hr, hBg, hc1, hc2⟩ := hO1.row hn
  have HP1 := hide (hr.pps hr.1)
  have HCC := hide (And.intro hc1 hc2)
  clear hn hf HC hO1 hr hBg hc1 hc2
  go_wp2_with fail
  refine (newDC HC1.out cap).mono ?_
  rintro e w2 ⟨rfl, hd2, b2⟩
  have HD2 : Hid (DX w2 w1.heap.size a len cap zs) := ⟨_, hd2⟩
  have hN2 : w1.heap.size < w2.heap.size := hd2.lt
  clear hd2
  go_wp2_with fail
  refine (l12Any_any HD2.out).mono ?_
  rintro e w3 ⟨⟨ss, g2, n2, c2, hfs, rfl, hO3⟩, _, hg3⟩
  have bb := grown_below hg3 (Nat.le_refl _) (by omega)
  have c3 := b1.trans ((b2.trans bb).mono b1.size)
  obtain ⟨h1, h2, h3, h4, h5⟩ := hO3.sts
  have bc := b2.trans (bb.mono (Nat.le_refl _))
  have HP := hide (show Pps w3 w3.heap.size (some ⟨g, 0, none⟩) ps from (HP1.out.below bc (Nat.le_refl _)).mono bc.size)
  have HS := hide h2
  have HFS := hide hfs
  have HN3 := hide h1
  have HB := hide c3
  clear hO3 h2 h3 h4 h5 hfs h1
  go_wp2
  refine bodyPost_ret (v := .tuple #[.slice (some ⟨g, 0, none⟩) n c, .slice (some ⟨g2, 0, none⟩) n2 c2]) ?_ rfl ⟨⟨ps, g, n, c, ss, g2, n2, c2, HF.out, HN.out, HFS.out, HN3.out, rfl, HP.out, HCC.out, HS.out⟩, HB.out⟩
  simp [results, Try.results8, go_sem]

set_option maxRecDepth 100000 in
set_option maxHeartbeats 4000000 in
theorem drawPropOf_any {w : World} {B : Nat} {a : Option Addr} {len : Nat} {zs : List Int} (h : CodeIn w B a len zs) (cap : Nat) :
    Calls Try.prog 11 #[.slice a len cap] w fun e w' => (∃ (ps : List Pp) (g n c : Nat) (x y : ByteArray), FewQ ps ∧ n = ps.length ∧ x.size ≤ 30 ∧ y.size ≤ 30 ∧ e = .returned (.tuple #[.slice (some ⟨g, 0, none⟩) n c, .string x, .string y]) ∧ Pps w' w'.heap.size (some ⟨g, 0, none⟩) ps) ∧ Below w.heap.size w w' := by
  have HC := hide h
  clear h
  go_enter Try.func11, Try.ntmps11
  go_wp2_with fail
  refine (newDC HC.out cap).mono ?_
  rintro e w1 ⟨rfl, hd1, b1⟩
  have hN1 : w.heap.size < w1.heap.size := hd1.lt
  have HD1 : Hid (DX w1 w.heap.size a len cap zs) := ⟨_, hd1⟩
  clear hd1
  go_wp2_with fail
  refine (l10Props_any HD1.out).mono ?_
  rintro e w2 ⟨⟨ps, g, n, c, hps, hn, rfl, hO2⟩, hd2, hg2⟩
  have HN := hide hn
  have HFQ := hide (FewQ.of_props hps).2
  have HD2 := hide hd2
  have HG2 := hide hg2
  clear hn hps hd2 hg2 HD1
  go_wp2_with fail
  refine (strNewQ HD2.out 30 nsQ _ _ 3 _ rfl rfl rfl (by decide) (by decide) (by decide)).mono ?_
  rintro e w3 ⟨⟨s1, rfl, hs1⟩, hd3, hg3⟩
  have hO3 := hO2.grown hg3 hN1
  have HD3 := hide hd3
  have HG3 := hide (grown_trans HG2.out hg3)
  clear hd3 hg3 hO2 HD2 HG2
  go_wp2_with fail
  refine (strNewQ HD3.out 30 nmQ _ _ 3 _ rfl rfl rfl (by decide) (by decide) (by decide)).mono ?_
  rintro e w4 ⟨⟨s2, rfl, hs2⟩, hd4, hg4⟩
  have hO4 := hO3.grown hg4 hN1
  have HG4 := hide (grown_trans HG3.out hg4)
  have HB := hide (b1.trans (grown_below HG4.out (Nat.le_refl _) (by omega)))
  obtain ⟨hr, _, _, _⟩ := hO4.row HN.out
  have HP := hide (hr.pps hr.1)
  clear hd4 hg4 hO3 HD3 HG3 hO4 hr
  go_wp2
  refine bodyPost_ret (v := .tuple #[.slice (some ⟨g, 0, none⟩) n c, .string s1, .string s2]) ?_ rfl ⟨⟨ps, g, n, c, s1, s2, HFQ.out, HN.out, hs1, hs2, rfl, HP.out⟩, HB.out⟩
  simp [results, Try.results11, go_sem]
end Go.Proofs.Ytkgdmlfdlkmojaa
namespace Go.Proofs.Ytkgdmlfdlkmojaa
open Go.RowKit M

set_option maxHeartbeats 400000 in
theorem allOf_any (s : ByteArray) (ks : List Int) (n b o cap : Nat) (w : World) (hn : ks.length = n) (hs : s.size ≤ maxLen) (hl : ks.length ≤ maxLen)
    (hc : ∀ i, i < ks.length → w.cell? ⟨b, o + i, none⟩ = some (.int .i64 (ks.getD i 0))) :
    Calls Try.prog 86 #[.string s, .slice (some ⟨b, o, none⟩) n cap] w fun e w' => e = .returned (.bool (allB s.data.toList ks)) ∧ w' = w := by
  subst hn
  unfold maxLen at hs
  have HC : Hid (∀ i, i < ks.length → w.cell? ⟨b, o + i, none⟩ = some (.int .i64 (ks.getD i 0))) := hc
  clear hc
  go_enter Try.func86, Try.ntmps86
  go_wp2
  go_loop [5] (fun i => ∃ k : Nat, k ≤ s.size ∧ i = .int .i64 k ∧ allB (s.data.toList.take k) ks = true) (fun i => s.size - (intOf i).toNat)
  case atStart => exact ⟨0, Nat.zero_le _, rfl, rfl⟩
  case round =>
    obtain ⟨k, hk, rfl, hn⟩ := hrel
    have HN : Hid (allB (s.data.toList.take k) ks = true) := hn; clear hn
    by_cases hlt : k < s.size
    · go_wp2_with (go_at_call 87; refine (isOneOf_any _ ks _ b o cap _ rfl hl HC.out).mono ?_; rintro e w' ⟨rfl, rfl⟩)
      · go_ret
        exact ⟨ret_bool (by rw [allB_not s ks k hlt (by assumption)]), rfl⟩
      · go_round
        case rel => exact ⟨k + 1, by omega, by go_num, allB_snoc s ks k hlt HN.out (by assumption)⟩
        case measure => simp [intOf]; omega
    · go_wp2
      go_ret
      exact ⟨ret_bool (by rw [← HN.out, take_all s k hlt]), rfl⟩
end Go.Proofs.Ytkgdmlfdlkmojaa
namespace Go.Proofs.Ytkgdmlfdlkmojaa
open Go.RowKit M

set_option maxHeartbeats 400000 in
theorem plain_any (s : ByteArray) (w : World) (hs : s.size ≤ maxLen) :
    Calls Try.prog 72 #[.string s] w fun e w' => e = .returned (.bool (allB s.data.toList [0])) ∧ Below w.heap.size w w' := by
  go_enter Try.func72, Try.ntmps72
  go_wp2_with (go_at_call 86; refine (allOf_any s [0] 1 _ 0 1 _ rfl hs (by decide) ?_).mono ?_)
  · intro i hi
    have : i = 0 := by simp at hi; omega
    subst this
    simp
  · rintro e w' ⟨rfl, rfl⟩
    go_wp2
    go_ret
    exact ⟨rfl, (Below.refl _ _).alloc (Nat.le_refl _) _⟩
end Go.Proofs.Ytkgdmlfdlkmojaa
namespace Go.Proofs.Ytkgdmlfdlkmojaa
open Go.RowKit M

set_option maxHeartbeats 400000 in
theorem smallName_any (s : ByteArray) (w : World) (hs : s.size ≤ maxLen) :
    Calls Try.prog 73 #[.string s] w fun e w' => e = .returned (.bool (smB s.data.toList)) ∧ Below w.heap.size w w' := by
  have hs' := hs
  unfold maxLen at hs'
  by_cases h0 : s.size < 1
  · have := smB_long s (.inl h0)
    have H : Hid (smB s.data.toList = false) := this
    clear this
    go_enter Try.func73, Try.ntmps73
    go_wp2
    go_ret
    exact ⟨ret_bool H.out.symm, Below.refl _ _⟩
  · by_cases h20 : 20 < s.size
    · have H : Hid (smB s.data.toList = false) := smB_long s (.inr h20)
      go_enter Try.func73, Try.ntmps73
      go_wp2
      go_ret
      exact ⟨ret_bool H.out.symm, Below.refl _ _⟩
    · have h1 : 0 < s.size := by omega
      have H : Hid (smB s.data.toList = (isB ((s[0]).toNat : Int) 2 && allB s.data.toList [2, 4, 7])) := smB_impl s h1 (by omega)
      cases hsm : isB ((s[0]).toNat : Int) 2
      · go_enter Try.func73, Try.ntmps73
        go_wp2_with (go_at_call 87; refine (isOneOf_any _ [2] 1 _ 0 1 _ rfl (by decide) (cells1 w 2 114)).mono ?_; rintro e w' ⟨rfl, rfl⟩; rw [anyB_one, hsm])
        go_ret
        exact ⟨ret_bool (by rw [H.out, hsm]; rfl), (Below.refl _ _).alloc (Nat.le_refl _) _⟩
      · go_enter Try.func73, Try.ntmps73
        go_wp2_with (first | (go_at_call 87; refine (isOneOf_any _ [2] 1 _ 0 1 _ rfl (by decide) (cells1 w 2 114)).mono ?_; rintro e w' ⟨rfl, rfl⟩; rw [anyB_one, hsm]) | (go_at_call 86; refine (allOf_any s [2, 4, 7] 3 _ 0 3 _ rfl hs (by decide) ?c1).mono ?_; rotate_left; rintro e w' ⟨rfl, rfl⟩))
        case c1 => exact cells3 _ _ 2 4 7 114 (by simp)
        go_ret
        exact ⟨ret_bool (by rw [H.out, hsm]; rfl), ((Below.refl _ _).alloc (Nat.le_refl _) _).alloc (by simp) _⟩
end Go.Proofs.Ytkgdmlfdlkmojaa
namespace Go.Proofs.Ytkgdmlfdlkmojaa
open Go.RowKit

/-- The texts that a slice holds, in a block below B. -/
def Strs (w : World) (B : Nat) (a : Option Addr) (ss : List ByteArray) : Prop :=
  0 < ss.length → ∃ b o, a = some ⟨b, o, none⟩ ∧ b < B ∧ ∀ j (hj : j < ss.length), w.cell? ⟨b, o + j, none⟩ = some (.string ss[j])

theorem Strs.below {w w' : World} {B C : Nat} {a : Option Addr} {ss : List ByteArray} (h : Strs w B a ss) (hb : Below C w w') (hB : B ≤ C) : Strs w' B a ss := fun h0 => by
  obtain ⟨b, o, e, hbB, hc⟩ := h h0
  exact ⟨b, o, e, hbB, fun j hj => (hb.cell (p := ⟨b, o + j, none⟩) (Nat.lt_of_lt_of_le hbB hB)).trans (hc j hj)⟩

theorem Strs.mono {w : World} {B C : Nat} {a : Option Addr} {ss : List ByteArray} (h : Strs w B a ss) (hB : B ≤ C) : Strs w C a ss := fun h0 => by
  obtain ⟨b, o, e, hbB, hc⟩ := h h0
  exact ⟨b, o, e, Nat.lt_of_lt_of_le hbB hB, hc⟩

theorem Strs.take {w : World} {B : Nat} {a : Option Addr} {ss : List ByteArray} (h : Strs w B a ss) (k : Nat) : Strs w B a (ss.take k) := fun h0 => by
  have hl : (ss.take k).length ≤ ss.length := by rw [List.length_take]; omega
  obtain ⟨b, o, e, hbB, hc⟩ := h (by omega)
  exact ⟨b, o, e, hbB, fun j hj => by rw [hc j (by omega), List.getElem_take]⟩

theorem info_str : (Try.prog.info? 9).map (fun i => (i.zero, i.size, i.bytes)) = some (some (.string ByteArray.empty), 1, 16) := by kernel_rfl

/-- A row of texts that the call made, as a slice. -/
theorem Strs.row {w : World} {N n C : Nat} {ss : List ByteArray} {f : Nat → Value} (h : w.rowIs N 9 n f) (hn : ss.length ≤ n) (hf : ∀ j (hj : j < ss.length), f j = .string ss[j]) (hN : N < C) : Strs w C (some ⟨N, 0, none⟩) ss := fun _ =>
  ⟨N, 0, rfl, hN, fun j hj => by rw [Nat.zero_add, h.cell (by omega), hf j hj]⟩

/-- All of them short enough. -/
def Short (ss : List ByteArray) : Prop := ∀ s ∈ ss, s.size ≤ maxLen
theorem Short.at {ss : List ByteArray} (h : Short ss) (k : Nat) (hk : k < ss.length) : (ss[k]).size ≤ maxLen := h _ (List.getElem_mem hk)

def sumS (ss : List ByteArray) : Nat := (ss.map (·.size)).sum
theorem sumS_snoc (ss : List ByteArray) (k : Nat) (hk : k < ss.length) : sumS (ss.take (k + 1)) = sumS (ss.take k) + (ss[k]).size := by
  unfold sumS
  rw [List.take_succ_eq_append_getElem hk, List.map_append, List.sum_append]
  simp only [List.map_cons, List.map_nil, List.sum_cons, List.sum_nil, Nat.add_zero]
theorem sumS_all (ss : List ByteArray) (k : Nat) (hk : ¬ k < ss.length) : ss.take k = ss := List.take_of_length_le (by omega)
theorem sumS_mem (ss : List ByteArray) (s : ByteArray) (h : s ∈ ss) : s.size ≤ sumS ss := by
  induction ss with
  | nil => cases h
  | cons x l ih =>
    simp only [sumS, List.map_cons, List.sum_cons] at *
    rcases List.mem_cons.1 h with rfl | h
    · omega
    · have := ih h; omega

theorem str_inj {a b : ByteArray} (h : a.toList = b.toList) : a = b := by
  rw [ByteArray.toList_eq, ByteArray.toList_eq] at h
  exact ByteArray.ext (Array.ext' h)

/-- Whether two lists of texts are the same. -/
def sameL (ss tt : List ByteArray) : Bool := decide (ss = tt)
theorem sameL_refl (ss : List ByteArray) : sameL ss ss = true := by simp [sameL]
theorem sameL_len {ss tt : List ByteArray} (h : ¬ ss.length = tt.length) : sameL ss tt = false := by
  simp only [sameL, decide_eq_false_iff_not]; intro e; exact h (by rw [e])
theorem sameL_not {ss tt : List ByteArray} (k : Nat) (h1 : k < ss.length) (h2 : k < tt.length) (h : ¬ ss[k] = tt[k]) : sameL ss tt = false := by
  simp only [sameL, decide_eq_false_iff_not]; intro e; subst e; exact h rfl
theorem sameL_all {ss tt : List ByteArray} (hl : ss.length = tt.length) (k : Nat) (hk : ¬ k < ss.length) (h : ss.take k = tt.take k) : sameL ss tt = true := by
  rw [List.take_of_length_le (by omega), List.take_of_length_le (by omega)] at h
  simp [sameL, h]
theorem take_same {ss tt : List ByteArray} (k : Nat) (h1 : k < ss.length) (h2 : k < tt.length) (h0 : ss.take k = tt.take k) (h : ss[k] = tt[k]) : ss.take (k + 1) = tt.take (k + 1) := by
  rw [List.take_succ_eq_append_getElem h1, List.take_succ_eq_append_getElem h2, h0, h]
end Go.Proofs.Ytkgdmlfdlkmojaa
namespace Go.Proofs.Ytkgdmlfdlkmojaa
open Go.RowKit M
set_option linter.unusedVariables false

theorem neStr {x y : ByteArray} (h : ¬ x = y) : (x.toList == y.toList) = false := by
  rw [beq_eq_false_iff_ne]; exact fun e => h (str_inj e)

set_option maxHeartbeats 400000 in
theorem isNaN_any (x : ByteArray) (w : World) : Calls Try.prog 93 #[.string x] w fun e w' => e = .returned (.bool false) ∧ w' = w := by
  go_enter Try.func93, Try.ntmps93
  go_wp2
  go_ret
  exact ⟨ret_bool (by simp), rfl⟩

set_option maxHeartbeats 400000 in
theorem compare_any (x y : ByteArray) (w : World) : Calls Try.prog 83 #[.string x, .string y] w fun e w' => e = .returned (.int .i64 (cmpT x y)) ∧ w' = w := by
  by_cases h1 : lessT x y = true
  · have e1 : cmpT x y = -1 := by unfold cmpT; rw [if_pos h1]
    rw [e1]
    unfold lessT at h1
    go_enter Try.func83, Try.ntmps83
    go_wp2_with fail
    refine (isNaN_any x w).mono ?_
    rintro e w1 ⟨rfl, hw⟩; obtain rfl := hw.symm
    go_wp2_with fail
    refine (isNaN_any y w).mono ?_
    rintro e w1 ⟨rfl, hw⟩; obtain rfl := hw.symm
    go_wp2
    go_ret
    exact ⟨rfl, rfl⟩
  · by_cases h2 : x = y
    · subst h2
      rw [cmpT_same]
      have h1' : Op.bytesLess x.toList x.toList = false := by simpa [lessT] using h1
      go_enter Try.func83, Try.ntmps83
      go_wp2_with fail
      refine (isNaN_any x w).mono ?_
      rintro e w1 ⟨rfl, hw⟩; obtain rfl := hw.symm
      go_wp2_with fail
      refine (isNaN_any x w).mono ?_
      rintro e w1 ⟨rfl, hw⟩; obtain rfl := hw.symm
      go_wp2
      go_ret
      exact ⟨rfl, rfl⟩
    · have e1 : cmpT x y = 1 := by unfold cmpT; rw [if_neg h1, if_neg h2]
      rw [e1]
      have h1' : Op.bytesLess x.toList y.toList = false := by simpa [lessT] using h1
      have h2' := neStr h2
      go_enter Try.func83, Try.ntmps83
      go_wp2_with fail
      refine (isNaN_any x w).mono ?_
      rintro e w1 ⟨rfl, hw⟩; obtain rfl := hw.symm
      go_wp2_with fail
      refine (isNaN_any y w).mono ?_
      rintro e w1 ⟨rfl, hw⟩; obtain rfl := hw.symm
      go_wp2
      go_ret
      exact ⟨rfl, rfl⟩
end Go.Proofs.Ytkgdmlfdlkmojaa
namespace Go.Proofs.Ytkgdmlfdlkmojaa
open Go.RowKit M
set_option linter.unusedVariables false

set_option maxHeartbeats 2000000 in
theorem propOk_any (p : Pp) (w : World) (h1 : p.1.size ≤ maxLen) (h2 : p.2.1.size ≤ maxLen) (h3 : p.2.2.size ≤ maxLen) :
    Calls Try.prog 38 #[.agg #[.string p.1, .string p.2.1, .string p.2.2]] w fun e w' => e = .returned (.bool (propB p)) ∧ Below w.heap.size w w' := by
  obtain ⟨x, y, z⟩ := p
  simp only at *
  have HB0 := hide (show Below w.heap.size w (w.alloc (Obj.cells #[.string x, .string y, .string z] 36)) from (Below.refl _ _).alloc (Nat.le_refl _) _)
  have HX := hide (fun W => plain_any x W h1)
  have HY := hide (fun W => smallName_any y W h2)
  have HZ := hide (fun W => plain_any z W h3)
  have HF := hide (show propB (x, y, z) = (decide (x.size ≤ 20) && (allB x.data.toList [0] && (smB y.data.toList && (decide (z.size ≤ 20) && allB z.data.toList [0])))) from rfl)
  generalize propB (x, y, z) = R at *
  generalize allB x.data.toList [0] = bx at *
  generalize smB y.data.toList = by' at *
  generalize allB z.data.toList [0] = bz at *
  cases bx
  · have hr : R = false := by rw [HF.out]; simp
    subst hr
    go_enter Try.func38, Try.ntmps38
    go_wp2_with fail
    refine (HX.out _).mono ?_
    rintro e w1 ⟨rfl, b1⟩
    have c1 := HB0.out.trans (b1.mono (by simp))
    clear b1
    go_wp2
    go_ret
    exact ⟨rfl, c1⟩
  by_cases hx : x.size ≤ 20
  · cases by'
    · have hr : R = false := by rw [HF.out]; simp
      subst hr
      go_enter Try.func38, Try.ntmps38
      go_wp2_with fail
      refine (HX.out _).mono ?_
      rintro e w1 ⟨rfl, b1⟩
      have c1 := HB0.out.trans (b1.mono (by simp))
      obtain ⟨hc, _⟩ := bcellP b1
      go_wp2_with fail
      refine (HY.out _).mono ?_
      rintro e w2 ⟨rfl, b2⟩
      have c2 := c1.trans (b2.mono c1.size)
      clear b1 b2 hc
      go_wp2
      go_ret
      exact ⟨rfl, c2⟩
    · cases bz
      · have hr : R = false := by rw [HF.out]; simp
        subst hr
        go_enter Try.func38, Try.ntmps38
        go_wp2_with fail
        refine (HX.out _).mono ?_
        rintro e w1 ⟨rfl, b1⟩
        have c1 := HB0.out.trans (b1.mono (by simp))
        obtain ⟨hc, _⟩ := bcellP b1
        go_wp2_with fail
        refine (HY.out _).mono ?_
        rintro e w2 ⟨rfl, b2⟩
        have c2 := c1.trans (b2.mono c1.size)
        obtain ⟨hc, _⟩ := bcellP (b1.trans (b2.mono b1.size))
        clear b1 b2
        go_wp2_with fail
        refine (HZ.out _).mono ?_
        rintro e w3 ⟨rfl, b3⟩
        have c3 := c2.trans (b3.mono c2.size)
        clear b3
        go_wp2
        go_ret
        exact ⟨rfl, c3⟩
      · have hr : R = decide (z.size ≤ 20) := by rw [HF.out]; simp [hx]
        subst hr
        go_enter Try.func38, Try.ntmps38
        go_wp2_with fail
        refine (HX.out _).mono ?_
        rintro e w1 ⟨rfl, b1⟩
        have c1 := HB0.out.trans (b1.mono (by simp))
        obtain ⟨hc, _⟩ := bcellP b1
        go_wp2_with fail
        refine (HY.out _).mono ?_
        rintro e w2 ⟨rfl, b2⟩
        have c2 := c1.trans (b2.mono c1.size)
        have b12 := b1.trans (b2.mono b1.size)
        obtain ⟨hc, _⟩ := bcellP b12
        clear b1 b2
        go_wp2_with fail
        refine (HZ.out _).mono ?_
        rintro e w3 ⟨rfl, b3⟩
        have c3 := c2.trans (b3.mono c2.size)
        obtain ⟨hc, _⟩ := bcellP (b12.trans (b3.mono b12.size))
        clear b3 b12
        go_wp2
        go_ret
        exact ⟨ret_bool (by simp; omega), c3⟩
  · have hr : R = false := by rw [HF.out]; simp [hx]
    subst hr
    go_enter Try.func38, Try.ntmps38
    go_wp2_with fail
    refine (HX.out _).mono ?_
    rintro e w1 ⟨rfl, b1⟩
    have c1 := HB0.out.trans (b1.mono (by simp))
    obtain ⟨hc, _⟩ := bcellP b1
    clear b1
    go_wp2
    go_ret
    exact ⟨rfl, c1⟩

set_option maxHeartbeats 400000 in
theorem cmpOr_any (g : Nat) (x y : Int) (w : World) (h0 : w.cell? ⟨g, 0, none⟩ = some (.int .i64 x)) (h1 : w.cell? ⟨g, 1, none⟩ = some (.int .i64 y)) :
    Calls Try.prog 82 #[.slice (some ⟨g, 0, none⟩) 2 2] w fun e w' => e = .returned (.int .i64 (orI x y)) ∧ w' = w := by
  go_enter Try.func82, Try.ntmps82
  go_wp2
  go_loop [8] (fun i => ∃ k : Nat, k ≤ 2 ∧ i = .int .i64 k ∧ (0 < k → x = 0) ∧ (1 < k → y = 0)) (fun i => 2 - (intOf i).toNat)
  case atStart => exact ⟨0, Nat.zero_le _, rfl, fun h => absurd h (by omega), fun h => absurd h (by omega)⟩
  case round =>
    obtain ⟨k, hk, rfl, hx, hy⟩ := hrel
    match k, hk with
    | 0, _ =>
      by_cases e : x = 0
      · go_wp2
        go_round
        case rel => exact ⟨1, by omega, by go_num, fun _ => e, fun h => absurd h (by omega)⟩
        case measure => simp [intOf]
      · have HO := hide (orI_yes (y := y) e)
        go_wp2
        go_ret
        exact ⟨by rw [HO.out]; rfl, rfl⟩
    | 1, _ =>
      have e0 := hx (by omega)
      have HO := hide (orI_no (y := y) e0)
      have E0 := hide e0
      clear hx hy e0
      by_cases e : y = 0
      · go_wp2
        go_round
        case rel => exact ⟨2, by omega, by go_num, fun _ => E0.out, fun _ => e⟩
        case measure => simp [intOf]
      · go_wp2
        go_ret
        exact ⟨by rw [HO.out]; rfl, rfl⟩
    | 2, _ =>
      have e0 := hx (by omega)
      have e1 := hy (by omega)
      have HO := hide ((orI_no (y := y) e0).trans e1)
      clear hx hy e0 e1
      go_wp2
      go_ret
      exact ⟨by rw [HO.out]; rfl, rfl⟩
end Go.Proofs.Ytkgdmlfdlkmojaa
namespace Go.Proofs.Ytkgdmlfdlkmojaa
open Go.RowKit M
set_option linter.unusedVariables false

theorem keepL {W : World} {a b c d : Addr} {x y u v : Value} (h : W.cell? a = some x ∧ W.cell? b = some y ∧ W.cell? c = some u ∧ W.cell? d = some v) (o : Obj) : (W.alloc o).cell? a = some x ∧ (W.alloc o).cell? b = some y ∧ (W.alloc o).cell? c = some u ∧ (W.alloc o).cell? d = some v := by
  rw [World.cell?_alloc_some W a o (by rw [h.1]; rfl), World.cell?_alloc_some W b o (by rw [h.2.1]; rfl), World.cell?_alloc_some W c o (by rw [h.2.2.1]; rfl), World.cell?_alloc_some W d o (by rw [h.2.2.2]; rfl)]
  exact h

theorem cell_new (W : World) (n : Nat) (cs : Array Value) (T : TypeId) (hn : n = W.heap.size) (i : Nat) (v : Value) (hi : cs[i]? = some v) : (W.alloc (.cells cs T)).drew.cell? ⟨n, i, none⟩ = some v := by
  subst hn
  show (W.alloc (.cells cs T)).cell? _ = _
  simp [hi]

set_option maxRecDepth 100000 in
set_option maxHeartbeats 4000000 in
theorem lessProp_any (p q : Pp) (w : World) :
    Calls Try.prog 49 #[.agg #[.string p.1, .string p.2.1, .string p.2.2], .agg #[.string q.1, .string q.2.1, .string q.2.2]] w fun e w' => e = .returned (.bool (lessP p q)) ∧ Below w.heap.size w w' := by
  have HF := hide (lessP_cmp p q)
  obtain ⟨x, y, z⟩ := p
  obtain ⟨x', y', z'⟩ := q
  simp only at *
  have HC := hide (fun W => compare_any x x' W)
  have HD := hide (fun W => compare_any y y' W)
  generalize lessP (x, y, z) (x', y', z') = R at *
  generalize cmpT x x' = c at *
  generalize cmpT y y' = d at *
  go_enter Try.func49, Try.ntmps49
  go_wp2
  refine wp_region_held_drew (S := (fun W => W.cell? ⟨w.heap.size, 0, none⟩ = some (.string x) ∧ W.cell? ⟨w.heap.size, 1, none⟩ = some (.string y) ∧ W.cell? ⟨w.heap.size + 1, 0, none⟩ = some (.string x') ∧ W.cell? ⟨w.heap.size + 1, 1, none⟩ = some (.string y'))) (by kernel_rfl) (by simp) (fun hHeld => ?_)
  simp only [List.size_toArray, List.length_cons, List.length_nil, Nat.reduceAdd, Array.replicate_succ, Array.replicate_zero, List.push_toArray, List.nil_append, List.cons_append]
  refine wpAnyH_take (i := 0) (v := ?_) rfl (by kernel_rfl) (by kernel_rfl) (by kernel_rfl) (fun _ _ _ h => h) (Or.inl ⟨by rfl, ?_⟩) (by assumption) ?_
  rotate_left
  · intro w hSw; (try dsimp only at hSw); go_simp; try with_reducible rfl
  simp only [Act.put, List.getElem_toArray, List.getElem_cons_zero, List.setIfInBounds_toArray, List.set_cons_zero]
  refine wpAnyH_take (i := 1) (v := ?_) rfl (by kernel_rfl) (by kernel_rfl) (by kernel_rfl) (fun _ _ _ h => h) (Or.inl ⟨by rfl, ?_⟩) (by assumption) ?_
  rotate_left
  · intro w hSw; (try dsimp only at hSw); go_simp; try with_reducible rfl
  simp only [Act.put, List.getElem_toArray, List.getElem_cons_succ, List.getElem_cons_zero, List.setIfInBounds_toArray, List.set_cons_succ, List.set_cons_zero]
  refine wpAnyH_take (i := 2) (v := ?_) rfl (by kernel_rfl) (by kernel_rfl) (by kernel_rfl) (fun _ _ _ h => h) (Or.inl ⟨by rfl, ?_⟩) (by assumption) ?_
  rotate_left
  · intro w hSw; (try dsimp only at hSw); go_simp; try with_reducible rfl
  simp only [Act.put, List.getElem_toArray, List.getElem_cons_succ, List.getElem_cons_zero, List.setIfInBounds_toArray, List.set_cons_succ, List.set_cons_zero]
  refine wpAnyH_take (i := 3) (v := ?_) rfl (by kernel_rfl) (by kernel_rfl) (by kernel_rfl) (fun _ _ _ h => h) (Or.inl ⟨by rfl, ?_⟩) (by assumption) ?_
  rotate_left
  · intro w hSw; (try dsimp only at hSw); go_simp; try with_reducible rfl
  simp only [Act.put, List.getElem_toArray, List.getElem_cons_succ, List.getElem_cons_zero, List.setIfInBounds_toArray, List.set_cons_succ, List.set_cons_zero]
  refine wpAnyH_take (i := 5) (v := ?_) rfl (by kernel_rfl) (by kernel_rfl) (by kernel_rfl) (fun _ _ _ h => h) (Or.inl ⟨by rfl, ?_⟩) (by assumption) ?_
  rotate_left
  · intro w hSw; (try dsimp only at hSw); go_simp; try with_reducible rfl
  simp only [Act.put, List.getElem_toArray, List.getElem_cons_succ, List.getElem_cons_zero, List.setIfInBounds_toArray, List.set_cons_succ, List.set_cons_zero]
  refine wpAnyH_take (i := 6) (v := ?_) rfl (by kernel_rfl) (by kernel_rfl) (by kernel_rfl) (fun _ _ _ h => h) (Or.inl ⟨by rfl, ?_⟩) (by assumption) ?_
  rotate_left
  · intro w hSw; (try dsimp only at hSw); go_simp; try with_reducible rfl
  simp only [Act.put, List.getElem_toArray, List.getElem_cons_succ, List.getElem_cons_zero, List.setIfInBounds_toArray, List.set_cons_succ, List.set_cons_zero]
  refine wpAnyH_take (i := 7) (v := ?_) rfl (by kernel_rfl) (by kernel_rfl) (by kernel_rfl) (fun _ _ _ h => h) (Or.inl ⟨by rfl, ?_⟩) (by assumption) ?_
  rotate_left
  · intro w hSw; (try dsimp only at hSw); go_simp; try with_reducible rfl
  simp only [Act.put, List.getElem_toArray, List.getElem_cons_succ, List.getElem_cons_zero, List.setIfInBounds_toArray, List.set_cons_succ, List.set_cons_zero]
  refine wpAnyH_take (i := 8) (v := ?_) rfl (by kernel_rfl) (by kernel_rfl) (by kernel_rfl) (fun _ _ _ h => h) (Or.inl ⟨by rfl, ?_⟩) (by assumption) ?_
  rotate_left
  · intro w hSw; (try dsimp only at hSw); go_simp; try with_reducible rfl
  simp only [Act.put, List.getElem_toArray, List.getElem_cons_succ, List.getElem_cons_zero, List.setIfInBounds_toArray, List.set_cons_succ, List.set_cons_zero]
  refine wpAnyH_ready (rs := [4]) (by kernel_rfl) (by simp) ?_
  refine AllReadyH.cons rfl (fun K hK => ?_) AllReadyH.nil
  go_simp
  refine (HC.out _).mono ?_
  rintro e w1 ⟨rfl, hw⟩
  obtain rfl := hw
  refine hK.out _ _ hHeld (fun hHeld2 => ?_)
  clear hK K hHeld
  have hHeld := hHeld2
  clear hHeld2
  simp only [List.setIfInBounds_toArray, List.set_cons_succ, List.set_cons_zero]
  refine wpAnyH_ready (rs := [9]) (by kernel_rfl) (by simp) ?_
  refine AllReadyH.cons rfl (fun K hK => ?_) AllReadyH.nil
  go_simp
  refine (HD.out _).mono ?_
  rintro e w2 ⟨rfl, hw⟩
  obtain rfl := hw
  refine hK.out _ _ hHeld (fun hHeld2 => ?_)
  clear hK K hHeld
  have hHeld := hHeld2
  clear hHeld2
  simp only [List.setIfInBounds_toArray, List.set_cons_succ, List.set_cons_zero]
  refine wpAnyH_ready (rs := [10]) (by kernel_rfl) (by simp) ?_
  refine AllReadyH.cons rfl (fun K hK => ?_) AllReadyH.nil
  go_simp
  refine hK.out _ _ (keepL hHeld _) (fun hHeld2 => ?_)
  clear hK K hHeld
  have hHeld := hHeld2
  clear hHeld2
  simp only [List.setIfInBounds_toArray, List.set_cons_succ, List.set_cons_zero]
  refine wpAnyH_ready (rs := [11]) (by kernel_rfl) (by simp) ?_
  refine AllReadyH.cons rfl (fun K hK => ?_) AllReadyH.nil
  go_simp
  refine (cmpOr_any _ c d _ (cell_new ((w.alloc _).alloc _) _ _ _ (by simp) 0 _ rfl) (cell_new ((w.alloc _).alloc _) _ _ _ (by simp) 1 _ rfl)).mono ?_
  rintro e w3 ⟨rfl, hw⟩
  obtain rfl := hw
  refine hK.out _ _ hHeld (fun hHeld2 => ?_)
  clear hK K hHeld
  have hHeld := hHeld2
  clear hHeld2
  simp only [List.setIfInBounds_toArray, List.set_cons_succ, List.set_cons_zero]
  refine wpAnyH_take (i := 12) (v := ?_) rfl (by kernel_rfl) (by kernel_rfl) (by kernel_rfl) (fun _ _ _ h => h) (Or.inl ⟨by rfl, ?_⟩) (by assumption) ?_
  rotate_left
  · intro w hSw; (try dsimp only at hSw); go_simp; try with_reducible rfl
  simp only [Act.put, List.getElem_toArray, List.getElem_cons_succ, List.getElem_cons_zero, List.setIfInBounds_toArray, List.set_cons_succ, List.set_cons_zero]
  refine wpAnyH_take (i := 13) (v := ?_) rfl (by kernel_rfl) (by kernel_rfl) (by kernel_rfl) (fun _ _ _ h => h) (Or.inl ⟨by rfl, ?_⟩) (by assumption) ?_
  rotate_left
  · intro w hSw; (try dsimp only at hSw); go_simp; try with_reducible rfl
  simp only [Act.put, List.getElem_toArray, List.getElem_cons_succ, List.getElem_cons_zero, List.setIfInBounds_toArray, List.set_cons_succ, List.set_cons_zero]
  refine wpAnyH_done (by kernel_rfl) ?_ _
  clear hHeld
  have HF2 := hide HF.out
  go_wp2
  go_ret
  refine ⟨ret_bool ?_, ?_⟩
  · exact HF2.out
  · exact below_drewP ((((Below.refl _ _).alloc (Nat.le_refl _) _).alloc (by simp) _).alloc (by simp; omega) _)
end Go.Proofs.Ytkgdmlfdlkmojaa
namespace Go.Proofs.Ytkgdmlfdlkmojaa
open Go.RowKit M
set_option linter.unusedVariables false

def Cell3 (W : World) (N : Nat) (p : Pp) : Prop := W.cell? ⟨N, 0, none⟩ = some (.string p.1) ∧ W.cell? ⟨N, 1, none⟩ = some (.string p.2.1) ∧ W.cell? ⟨N, 2, none⟩ = some (.string p.2.2)
theorem Cell3.below {W w1 : World} {N : Nat} {p : Pp} (h : Cell3 W N p) (hb : Below W.heap.size W w1) : Cell3 w1 N p := by
  have hN : N < W.heap.size := World.block_lt_of_cell? W _ h.1
  unfold Cell3
  simp only [(bcellP hb).1 N _ hN]
  exact h

set_option maxHeartbeats 1000000 in
theorem notLess_any (q p : Pp) (N : Nat) (w : World) (h : Cell3 w N p) :
    Calls Try.prog 89 #[.agg #[.string q.1, .string q.2.1, .string q.2.2], .pointer (some ⟨N, 0, none⟩)] w fun e w' => e = .returned (.bool (!lessP q p)) ∧ Below w.heap.size w w' := by
  have HL := hide (fun W => lessProp_any q p W)
  have HB := hide ((Below.refl w.heap.size w).alloc (Nat.le_refl _) (Obj.cells #[.string q.1, .string q.2.1, .string q.2.2] 36))
  obtain ⟨h0, h1, h2⟩ := h.below HB.out
  go_enter Try.func89, Try.ntmps89
  go_wp2_with fail
  refine (HL.out _).mono ?_
  rintro e w1 ⟨rfl, b1⟩
  have c1 := HB.out.trans (b1.mono HB.out.size)
  go_wp2
  go_ret
  exact ⟨rfl, c1⟩

/-- The place as slices.IndexFunc tells it. -/
def plcI (p : Pp) (ps : List Pp) : Int := if plcL p ps < ps.length then (plcL p ps : Int) else -1

set_option maxHeartbeats 2000000 in
theorem indexProp_any (a : Option Addr) (ps : List Pp) (cap B N : Nat) (p : Pp) (w : World) (h : Pps w B a ps) (hB : B ≤ w.heap.size) (hl : ps.length ≤ maxLen) (hN : Cell3 w N p) :
    Calls Try.prog 88 #[.slice a ps.length cap, .func (.func 89) #[] #[.pointer (some ⟨N, 0, none⟩)]] w fun e w' => e = .returned (.int .i64 (plcI p ps)) ∧ Below w.heap.size w w' := by
  unfold maxLen at hl
  go_enter Try.func88, Try.ntmps88
  go_wp2
  go_loopw [8] (fun i wr => ∃ k : Nat, k ≤ ps.length ∧ i = .int .i64 k ∧ Hid (∀ j (hj : j < ps.length), j < k → lessP ps[j] p = true) ∧ Below w.heap.size w wr) (fun i _ => ps.length - (intOf i).toNat)
  case atStart => exact ⟨0, Nat.zero_le _, rfl, fun j _ hj => absurd hj (by omega), Below.refl _ _⟩
  case round =>
    obtain ⟨k, hk, rfl, hn, hbe⟩ := hrel
    by_cases hlt : k < ps.length
    · obtain ⟨b, o, rfl, hb, hc⟩ := (h.below hbe hB) (by omega)
      obtain ⟨hcx, hcy, hcz⟩ := hc k hlt
      clear hc
      have HQ := hide (notLess_any ps[k] p N wr (hN.below hbe))
      have HAT := hide (fun e => plc_at p ps k hlt hn.out e)
      obtain ⟨z, hz⟩ : ∃ z, lessP ps[k] p = z := ⟨_, rfl⟩
      rw [hz] at HQ
      have HZ := hide hz
      clear hz
      go_wp2_with fail
      refine HQ.out.mono ?_
      rintro e w1 ⟨rfl, b1⟩
      have c1 := hbe.trans (b1.mono hbe.size)
      cases z
      · have HE := hide (show plcI p ps = (k : Int) by unfold plcI; rw [HAT.out HZ.out, if_pos hlt])
        go_wp2
        go_ret
        rw [HE.out]
        exact ⟨rfl, c1⟩
      · go_wp2
        go_roundw
        case rel => exact ⟨k + 1, by omega, by go_num, fun j hj hjk => if e : j = k then by subst e; exact HZ.out else hn.out j hj (by omega), c1⟩
        case measure => simp [intOf]; omega
    · have HE := hide (show plcI p ps = -1 by unfold plcI; rw [plc_none p ps (fun j hj => hn.out j hj (by omega)), if_neg (Nat.lt_irrefl _)])
      go_wp2
      go_ret
      rw [HE.out]
      exact ⟨rfl, hbe⟩

set_option maxHeartbeats 2000000 in
theorem placeOf_any (a : Option Addr) (ps : List Pp) (cap B : Nat) (p : Pp) (w : World) (h : Pps w B a ps) (hB : B ≤ w.heap.size) (hl : ps.length ≤ maxLen) :
    Calls Try.prog 74 #[.slice a ps.length cap, .agg #[.string p.1, .string p.2.1, .string p.2.2]] w fun e w' => e = .returned (.int .i64 (plcL p ps)) ∧ Below w.heap.size w w' := by
  have hmf : ∀ (fn : Fn) (first cap : Array Value) (w : World), (Instr.makeFunc fn first cap).run Try.prog w = .ok (.func fn first cap) w := fun _ _ _ _ => rfl
  have HB := hide ((Below.refl w.heap.size w).alloc (Nat.le_refl _) (Obj.cells #[.string p.1, .string p.2.1, .string p.2.2] 36))
  have HI := hide (indexProp_any a ps cap B w.heap.size p _ (h.below HB.out hB) (Nat.le_trans hB HB.out.size) hl (by unfold Cell3; simp))
  have HLE := hide (plc_le p ps)
  have HE := hide (show plcI p ps = if plcL p ps < ps.length then (plcL p ps : Int) else -1 from rfl)
  generalize plcI p ps = r at *
  go_enter Try.func74, Try.ntmps74
  go_wp2_with fail
  refine HI.out.mono ?_
  rintro e w1 ⟨rfl, b1⟩
  have c1 := HB.out.trans (b1.mono HB.out.size)
  by_cases hlt : plcL p ps < ps.length
  · have hr : r = (plcL p ps : Int) := by rw [HE.out, if_pos hlt]
    subst hr
    go_wp2
    go_ret
    exact ⟨rfl, c1⟩
  · have hr : r = -1 := by rw [HE.out, if_neg hlt]
    subst hr
    have HQ := hide (show plcL p ps = ps.length by have := HLE.out; omega)
    clear hlt
    go_wp2
    go_ret
    rw [HQ.out]
    exact ⟨rfl, c1⟩
end Go.Proofs.Ytkgdmlfdlkmojaa
namespace Go.Proofs.Ytkgdmlfdlkmojaa
open Go.RowKit M
set_option linter.unusedVariables false

set_option maxHeartbeats 1000000 in
theorem nameOfProp_any (x y z : ByteArray) (w : World) :
    Calls Try.prog 76 #[.agg #[.string x, .string y, .string z]] w fun e w' => e = .returned (.agg #[.string x, .string y]) ∧ Below w.heap.size w w' := by
  go_enter Try.func76, Try.ntmps76
  go_wp2
  exact bodyPost_ret (v := .agg #[.string x, .string y]) (by simp [results, Try.results76, go_sem]) rfl ⟨rfl, ((Below.refl _ _).alloc (Nat.le_refl _) _).alloc (by simp) _⟩
end Go.Proofs.Ytkgdmlfdlkmojaa
namespace Go.Proofs.Ytkgdmlfdlkmojaa
open Go.RowKit

/-- What '==' says of two names. -/
theorem eqIn_name (x y x' y' : ByteArray) (w : World) : (Op.equalIn 10000 79 (.agg #[.string x, .string y]) (.agg #[.string x', .string y'])).run Try.prog w = .ok (x.toList == x'.toList && y.toList == y'.toList) w := by
  have u3 := Try.underlying9
  have a3 := Try.isAgg9
  have z3 := Try.sizeOf9
  have hS : Try.prog.underlying 79 = some (.struct (Try.prog.fieldsOf 79)) := by kernel_rfl
  have hp : Try.prog.stoodInHeld 79 = false := by kernel_rfl
  rw [show (10000 : Nat) = 9999 + 1 from rfl, run_equalIn_agg w 9999 79 _ _ hS hp]
  simp only [Program.fieldsOf, Try.underlying79]
  go_simp
  by_cases h1 : x.toList = x'.toList <;> by_cases h2 : y.toList = y'.toList <;> simp [h1, h2]
theorem neq_name (x y x' y' : ByteArray) (w : World) : (binOp .neq 79 (.agg #[.string x, .string y]) (.agg #[.string x', .string y'])).run Try.prog w = .ok (.bool (!(x.toList == x'.toList && y.toList == y'.toList))) w := by
  rw [run_neq_struct, eqIn_name]; rfl
theorem eql_name (x y x' y' : ByteArray) (w : World) : (binOp .eql 79 (.agg #[.string x, .string y]) (.agg #[.string x', .string y'])).run Try.prog w = .ok (.bool (x.toList == x'.toList && y.toList == y'.toList)) w := by
  rw [run_eql_struct, eqIn_name]; rfl
end Go.Proofs.Ytkgdmlfdlkmojaa
