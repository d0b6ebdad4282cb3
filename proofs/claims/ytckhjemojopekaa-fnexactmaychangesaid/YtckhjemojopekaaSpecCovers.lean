/-
  What impl.inOrder's method those does at locks.
  A row of locks, as a slice.
  Whether a number is one of a list.
  What slices.Contains at numbers does.
  What the program's Under does.
  What impl.Covers does.
  What impl.touching and impl.MayTurn do.
  What impl.MayTurn does.
  What spec.l13Has does.
  Whether two slices of texts hold the same: what spec.SamePath does.
  What the specification's Under does.
  What spec.Covers does.
-/
import Derived.Test.YtckhjemojopekaaPlaceB
import Derived.Test.YtckhjemojopekaaGenMath
import Derived.Test.YtckhjemojopekaaRowT
import Derived.Test.YtckhjemojopekaaSliceEq
import Derived.Test.YtckhjemojopekaaMathSmall
namespace Go.Proofs.Ytckhjemojopekaa
open Go.RowKit M
set_option linter.unusedVariables false

set_option maxRecDepth 100000 in
set_option maxHeartbeats 4000000 in
/-- Those that are wanted: their paths lie where they lay. -/
theorem those_any (fn : Nat) (hE : ∀ args w, (callFunc fn args).run Try.prog w = .ok (.enter fn args) w) (cp : Array Value) (P : Lk → Bool) (a : Option Addr) (l : List Lk) (cap B : Nat) (w : World) (h : Lks w B a l) (hB : B ≤ w.heap.size) (hl : l.length ≤ 1048577)
    (hP : ∀ k (hk : k < l.length) pa pc W, Below w.heap.size w W → LkIn W B l[k] pa pc → Calls Try.prog fn (#[.agg #[.int .i64 l[k].tk, .slice pa l[k].pa.length pc, .bool l[k].de, .bool l[k].sh, .int .i64 l[k].un]] ++ cp) W fun e w' => e = .returned (.bool (P l[k])) ∧ Below W.heap.size W w') :
    Calls Try.prog 65 #[.slice a l.length cap, .func (.func fn) #[] cp] w fun e w' => (∃ (g n c : Nat) (ts : List LkT), e = .returned (.slice (some ⟨g, 0, none⟩) n c) ∧ n = ts.length ∧ n ≤ c ∧ c ≤ maxLen ∧ w.heap.size ≤ g ∧ g < w'.heap.size ∧ ts.map (·.r) = l.filter P ∧ RowV w' g ts ∧ InV w' B ts) ∧ Below w.heap.size w w' := by
  have HH := hide h
  have HP := hide hP
  have HE := hide hE
  have HO := hide (OwnT.made w w.heap.size (Nat.le_refl _))
  clear h hP hE
  go_enter Try.func65, Try.ntmps65
  go_wp2
  go_loopw [5, 11] (fun v i wr => ∃ (k g n c : Nat) (ts : List LkT), k ≤ l.length ∧ i = .int .i64 k ∧ v = .slice (some ⟨g, 0, none⟩) n c ∧ ts.length ≤ k ∧ Hid (OwnT wr w.heap.size (.slice (some ⟨g, 0, none⟩) n c) ts) ∧ Hid (ts.map (·.r) = (l.take k).filter P) ∧ Hid (InV wr B ts) ∧ Below w.heap.size w wr) (fun _ i _ => l.length - (intOf i).toNat)
  case atStart => exact ⟨0, _, _, _, [], Nat.zero_le _, rfl, rfl, Nat.le_refl _, HO, (by show _ = _; simp), (fun t ht => by cases ht), (Below.refl _ _).alloc (Nat.le_refl _) _⟩
  case round =>
    obtain ⟨k, g, n, c, ts, hk, rfl, rfl, htl, HOW, HTS, HIN, hbe⟩ := hrel
    by_cases hlt : k < l.length
    · obtain ⟨b, o, rfl, hb, hc⟩ := (HH.out.below hbe hB) (by omega)
      obtain ⟨pa, pc, ⟨hc0, hc1, hc2, hc3, hc4⟩, hin⟩ := hc k hlt
      have b1 := (Below.refl wr.heap.size wr).alloc (Nat.le_refl _) (Obj.cells #[.int .i64 l[k].tk, .slice pa l[k].pa.length pc, .bool l[k].de, .bool l[k].sh, .int .i64 l[k].un] 102)
      have c1 := hbe.trans (b1.mono hbe.size)
      have hin1 := hin.below b1 (Nat.le_trans hB hbe.size)
      have HC := hide (HP.out k hlt pa pc _ c1 hin1)
      have HB1 := hide (BoxL.made wr l[k] pa pc 102)
      have HI1 := hide hin1
      have HO1 := hide (HOW.out.next b1)
      have HV1 := hide (HIN.out.below b1 (Nat.le_trans hB hbe.size))
      have HC1 := hide c1
      have HF := hide (show (l.take (k + 1)).filter P = (l.take k).filter P ++ (if P l[k] = true then [l[k]] else []) by rw [List.take_succ_eq_append_getElem hlt, List.filter_append, List.filter_cons, List.filter_nil])
      obtain ⟨z, hz⟩ : ∃ z, P l[k] = z := ⟨_, rfl⟩
      rw [hz] at HC HF
      clear hz hc hin hin1 b1 c1 HOW HIN hbe
      go_wp2_with fail
      rw [HE.out, Oper.upon_enter]
      refine HC.out.mono ?_
      rintro e w1 ⟨rfl, b2⟩
      have HB2 := hide (HB1.out.next b2)
      have HI2 := hide (HI1.out.below b2 (Nat.le_trans hB HC1.out.size))
      have HO2 := hide (HO1.out.next b2)
      have HV2 := hide (HV1.out.below b2 (Nat.le_trans hB HC1.out.size))
      have HC2 := hide (HC1.out.trans (b2.mono HC1.out.size))
      obtain ⟨_, x0, x1, x2, x3, x4⟩ := HB2.out
      clear b2 HB1 HI1 HO1 HV1 HC1 HC hc0 hc1 hc2 hc3 hc4
      cases z
      · go_wp2
        go_roundw
        case rel => exact ⟨k + 1, g, n, c, ts, by omega, by go_num, rfl, by omega, HO2, (by show _ = _; rw [HF.out, HTS.out]; simp), HV2, HC2.out⟩
        case measure => simp [intOf]; omega
      · have hs2 := HC2.out.size
        have bA := (Below.refl w1.heap.size w1).alloc (Nat.le_refl _) (Obj.cells #[.int .i64 l[k].tk, .slice pa l[k].pa.length pc, .bool l[k].de, .bool l[k].sh, .int .i64 l[k].un] 102)
        have HO3 := hide (HO2.out.next bA)
        have HV3 := hide (HV2.out.below bA (Nat.le_trans hB hs2))
        have HI3 := hide (HI2.out.below bA (Nat.le_trans hB hs2))
        have HC3 := hide (HC2.out.trans (bA.mono hs2))
        have hln : ts.length + 1 ≤ 1099511627776 := by omega
        have hs3 := HC3.out.size
        clear bA HO2 HV2 HI2 HC2
        go_wp2_with (at_builtin; refine wp_append_lkT 110 Try.underlying110 rfl _ _ rfl w.heap.size _ ts rfl HO3.out _ ⟨l[k], pa, pc⟩ rfl (by refine ⟨?_, ?_, ?_, ?_, ?_⟩ <;> simp [go_sem]) hln hs3 ?_)
        intro g9 n9 c9 w9 hn9 hO9 hb9 hg9 _
        have HO9 := hide hO9
        have HB9 := hide (HC3.out.trans hb9)
        have HV9 := hide (show InV w9 B (ts ++ [⟨l[k], pa, pc⟩]) from fun t ht => by
          rcases List.mem_append.1 ht with h | h
          · exact (HV3.out t h).below hb9 hB
          · obtain rfl := List.mem_singleton.1 h; exact HI3.out.below hb9 hB)
        clear hO9 hb9 hg9 hn9 HO3 HV3 HI3 HC3
        go_wp2
        go_roundw
        case rel => exact ⟨k + 1, g9, n9, c9, _, by omega, by go_num, rfl, by simp; omega, HO9, (by show _ = _; rw [HF.out, List.map_append, HTS.out]; simp), HV9, HB9.out⟩
        case measure => simp [intOf]; omega
    · have HF := hide (show l.take k = l from List.take_of_length_le (by omega))
      obtain ⟨e1, e2, e3, e4, e5⟩ := HOW.out.row
      have HEE := hide (And.intro e1 (And.intro e2 (And.intro e3 (And.intro e4 e5))))
      clear e1 e2 e3 e4 e5
      go_wp2
      go_ret
      exact ⟨⟨g, n, c, ts, rfl, HEE.out.1, HEE.out.2.2.1, HEE.out.2.2.2.1, HEE.out.2.2.2.2, HEE.out.2.1.1, by rw [HTS.out, HF.out], HEE.out.2.1, HIN.out⟩, hbe⟩
end Go.Proofs.Ytckhjemojopekaa
namespace Go.Proofs.Ytckhjemojopekaa
open Go.RowKit M
theorem lks_of_rowV {w : World} {g B : Nat} {ts : List LkT} {l : List Lk} (e : ts.map (·.r) = l) (h : RowV w g ts) (hi : InV w B ts) (hB : B ≤ w.heap.size) : Lks w w.heap.size (some ⟨g, 0, none⟩) l := by
  rw [← e]; exact h.lks hi h.1 hB
end Go.Proofs.Ytckhjemojopekaa
namespace Go.Proofs.Ytckhjemojopekaa
open Go.RowKit M
set_option linter.unusedVariables false

theorem anyI_none {t : Int} {l : List Int} (h : ∀ j (hj : j < l.length), l[j] ≠ t) : l.any (· == t) = false := by
  rw [Bool.eq_false_iff]
  intro e
  obtain ⟨x, hx, hp⟩ := List.any_eq_true.1 e
  obtain ⟨j, hj, rfl⟩ := List.mem_iff_getElem.1 hx
  exact h j hj (by simpa using hp)
theorem anyI_some {t : Int} {l : List Int} {k : Nat} (hk : k < l.length) (h : l[k] = t) : l.any (· == t) = true :=
  List.any_eq_true.2 ⟨l[k], List.getElem_mem hk, by simpa using h⟩
end Go.Proofs.Ytckhjemojopekaa
namespace Go.Proofs.Ytckhjemojopekaa
open Go.RowKit M
set_option linter.unusedVariables false

set_option maxHeartbeats 1000000 in
theorem indexI_any (a : Option Addr) (l : List Int) (cap B : Nat) (t : Int) (w : World) (h : Ints w B a l) (hl : l.length ≤ 1048576) :
    Calls Try.prog 81 #[.slice a l.length cap, .int .i64 t] w fun e w' => (∃ z : Int, e = .returned (.int .i64 z) ∧ decide (0 ≤ z) = l.any (· == t)) ∧ w' = w := by
  have HH := hide h
  clear h
  go_enter Try.func81, Try.ntmps81
  go_wp2
  go_loopw [8] (fun i wr => ∃ k : Nat, k ≤ l.length ∧ i = .int .i64 k ∧ Hid (∀ j (hj : j < l.length), j < k → l[j] ≠ t) ∧ wr = w) (fun i _ => l.length - (intOf i).toNat)
  case atStart => exact ⟨0, Nat.zero_le _, rfl, fun j _ hj => absurd hj (Nat.not_lt_zero _), rfl⟩
  case round =>
    obtain ⟨k, hk, rfl, HN, hw⟩ := hrel
    obtain rfl := hw.symm
    by_cases hlt : k < l.length
    · obtain ⟨b, o, rfl, hb, hc⟩ := HH.out (by omega)
      have hck := hc k hlt
      clear hc
      by_cases hz : l[k] = t
      · have HA := hide (anyI_some hlt hz)
        go_wp2
        go_ret
        exact ⟨⟨_, rfl, by rw [HA.out]; simp⟩, rfl⟩
      · have HZ := hide hz
        have hz2 : ¬ t = l[k] := fun e => hz e.symm
        go_wp2
        go_roundw
        case rel => exact ⟨k + 1, by omega, by go_num, fun j hj hjk => if e : j = k then by subst e; exact HZ.out else HN.out j hj (by omega), by trivial⟩
        case measure => simp [intOf]; omega
    · have HA := hide (anyI_none (fun j hj => HN.out j hj (by omega)))
      go_wp2
      go_ret
      exact ⟨⟨_, rfl, by rw [HA.out]; rfl⟩, rfl⟩

set_option maxHeartbeats 1000000 in
theorem containsI_any (a : Option Addr) (l : List Int) (cap B : Nat) (t : Int) (w : World) (h : Ints w B a l) (hl : l.length ≤ 1048576) :
    Calls Try.prog 63 #[.slice a l.length cap, .int .i64 t] w fun e w' => e = .returned (.bool (l.any (· == t))) ∧ w' = w := by
  have HQ := hide (indexI_any a l cap B t w h hl)
  clear h
  go_enter Try.func63, Try.ntmps63
  go_wp2_with fail
  refine HQ.out.mono ?_
  rintro e w1 ⟨⟨z, rfl, hz⟩, hw⟩
  obtain rfl := hw.symm
  have HZ := hide hz
  clear hz hw
  go_wp2
  go_ret
  exact ⟨by rw [← HZ.out]; rfl, rfl⟩
end Go.Proofs.Ytckhjemojopekaa
namespace Go.Proofs.Ytckhjemojopekaa
open Go.RowKit
set_option linter.unusedVariables false

set_option maxHeartbeats 400000 in
theorem under_any (a b : Option Addr) (ss tt : List ByteArray) (cap cap' B C : Nat) (w : World) (h : Strs w B a ss) (h' : Strs w C b tt) (hl : ss.length ≤ maxLen) (hl' : tt.length ≤ maxLen) (hc : ss.length ≤ cap) (hc' : cap ≤ maxLen) :
    Calls Try.prog 84 #[.slice a ss.length cap, .slice b tt.length cap'] w fun e w' => e = .returned (.bool (underB ss tt)) ∧ ∀ D, Below D w w' := by
  have hl1 := hl
  have hl2 := hl'
  have hc2 := hc'
  unfold maxLen at hl hl' hc'
  by_cases hlt : tt.length < ss.length
  · have ht : (ss.take tt.length).length = tt.length := by rw [List.length_take]; omega
    have cE := fun w1 cap1 (hh : Strs w1 B a ss) (hh' : Strs w1 C b tt) => slicesEqual_any a b (ss.take tt.length) tt cap1 cap' B C w1 (hh.take _) hh' (by omega) hl2
    rw [ht] at cE
    obtain ⟨b1, o1, rfl, _, _⟩ := h (by omega)
    go_enter Try.func84, Try.ntmps84
    go_wp2_with fail
    refine (cE _ _ h h').mono ?_
    rintro e w1 ⟨rfl, hb⟩
    go_wp2
    go_ret
    exact ⟨ret_bool (by simp [underB, hlt]), hb⟩
  · go_enter Try.func84, Try.ntmps84
    go_wp2
    go_ret
    exact ⟨ret_bool (by simp [underB, hlt]), fun D => Below.refl _ _⟩

end Go.Proofs.Ytckhjemojopekaa
namespace Go.Proofs.Ytckhjemojopekaa
open Go.RowKit M
set_option linter.unusedVariables false

set_option maxHeartbeats 1000000 in
theorem covers_any (r : Lk) (pa : Option Addr) (pc : Nat) (a : Option Addr) (ss : List ByteArray) (cap B C : Nat) (w : World) (h : LkIn w B r pa pc) (hB : B ≤ w.heap.size) (h' : Strs w C a ss) (hC : C ≤ w.heap.size) (hl : ss.length ≤ cap) (hm : cap ≤ maxLen) :
    Calls Try.prog 83 #[.agg #[.int .i64 r.tk, .slice pa r.pa.length pc, .bool r.de, .bool r.sh, .int .i64 r.un], .slice a ss.length cap] w fun e w' => e = .returned (.bool (covB r ss)) ∧ Below w.heap.size w w' := by
  have l1 := h.len
  have p1 := h.ph
  have l2 : ss.length ≤ maxLen := Nat.le_trans hl hm
  have F1 : Hid (sameL r.pa ss = true → covB r ss = true) := fun e => by unfold covB; rw [e]; rfl
  have F2 : Hid (sameL r.pa ss = false → r.de = false → covB r ss = false) := fun e e' => by unfold covB; rw [e, e']; rfl
  have F3 : Hid (sameL r.pa ss = false → r.de = true → covB r ss = underB ss r.pa) := fun e e' => by unfold covB; rw [e, e']; rfl
  generalize covB r ss = dd at *
  clear h
  obtain ⟨tk, tt, de, sh, un⟩ := r
  simp only at *
  have hb0 : Below w.heap.size w (w.alloc (Obj.cells #[.int .i64 tk, .slice pa tt.length pc, .bool de, .bool sh, .int .i64 un] 102)) := (Below.refl _ _).alloc (Nat.le_refl _) _
  have hS := samePath_any pa a tt ss pc cap B C _ (p1.below hb0 hB) (h'.below hb0 hC) l1 l2
  have HU := hide (fun w1 (hb : ∀ D, Below D (w.alloc (Obj.cells #[.int .i64 tk, .slice pa tt.length pc, .bool de, .bool sh, .int .i64 un] 102)) w1) => under_any a pa ss tt cap pc C B w1 ((h'.below hb0 hC).below (hb _) (Nat.le_refl _)) ((p1.below hb0 hB).below (hb _) (Nat.le_refl _)) l2 l1 hl hm)
  have HB0 := hide hb0
  clear hb0 p1 h'
  obtain ⟨z, hz⟩ : ∃ z, sameL tt ss = z := ⟨_, rfl⟩
  rw [hz] at hS
  have HS := hide hS
  clear hS
  cases z
  · cases de
    · rw [F2.out hz rfl]
      clear hz
      go_enter Try.func83, Try.ntmps83
      go_wp2_with fail
      refine HS.out.mono ?_
      rintro e w1 ⟨rfl, hb1⟩
      have hcl : ∀ b o, w1.cell? ⟨b, o, none⟩ = _ := fun b o => (hb1 (b + 1)).cell (p := ⟨b, o, none⟩) (Nat.lt_succ_self _)
      have HC1 := hide (HB0.out.trans (hb1 _))
      clear hb1
      go_wp2
      go_ret
      exact ⟨rfl, HC1.out⟩
    · rw [F3.out hz rfl]
      clear hz
      go_enter Try.func83, Try.ntmps83
      go_wp2_with fail
      refine HS.out.mono ?_
      rintro e w1 ⟨rfl, hb1⟩
      have hcl : ∀ b o, w1.cell? ⟨b, o, none⟩ = _ := fun b o => (hb1 (b + 1)).cell (p := ⟨b, o, none⟩) (Nat.lt_succ_self _)
      have HC1 := hide (HB0.out.trans (hb1 _))
      have HU1 := hide (HU.out w1 hb1)
      clear hb1
      go_wp2_with fail
      refine HU1.out.mono ?_
      rintro e w2 ⟨rfl, hb2⟩
      have c2 := HC1.out.trans (hb2 _)
      go_wp2
      go_ret
      exact ⟨rfl, c2⟩
  · rw [F1.out hz]
    clear hz
    go_enter Try.func83, Try.ntmps83
    go_wp2_with fail
    refine HS.out.mono ?_
    rintro e w1 ⟨rfl, hb1⟩
    have HC1 := hide (HB0.out.trans (hb1 _))
    clear hb1
    go_wp2
    go_ret
    exact ⟨rfl, HC1.out⟩
end Go.Proofs.Ytckhjemojopekaa
namespace Go.Proofs.Ytckhjemojopekaa
open Go.RowKit M
set_option linter.unusedVariables false

set_option maxRecDepth 100000 in
set_option maxHeartbeats 4000000 in
theorem indexO_any (fn : Nat) (hE : ∀ args w, (callFunc fn args).run Try.prog w = .ok (.enter fn args) w) (cp : Array Value) (P : Lk → Bool) (a : Option Addr) (l : List Lk) (cap B : Nat) (w : World) (h : Lks w B a l) (hB : B ≤ w.heap.size) (hl : l.length ≤ 1048577)
    (hP : ∀ k (hk : k < l.length) pa pc W, Below w.heap.size w W → LkIn W B l[k] pa pc → Calls Try.prog fn (#[.agg #[.int .i64 l[k].tk, .slice pa l[k].pa.length pc, .bool l[k].de, .bool l[k].sh, .int .i64 l[k].un]] ++ cp) W fun e w' => e = .returned (.bool (P l[k])) ∧ Below W.heap.size W w') :
    Calls Try.prog 85 #[.slice a l.length cap, .func (.func fn) #[] cp] w fun e w' => (∃ z : Int, e = .returned (.int .i64 z) ∧ placeB P l z) ∧ Below w.heap.size w w' := by
  have HH := hide h
  have HP := hide hP
  have HE := hide hE
  clear h hP hE
  go_enter Try.func85, Try.ntmps85
  go_wp2
  go_loopw [8] (fun i wr => ∃ k : Nat, k ≤ l.length ∧ i = .int .i64 k ∧ Hid (∀ j (hj : j < l.length), j < k → P l[j] = false) ∧ Below w.heap.size w wr) (fun i _ => l.length - (intOf i).toNat)
  case atStart => exact ⟨0, Nat.zero_le _, rfl, fun j _ hj => absurd hj (Nat.not_lt_zero _), Below.refl _ _⟩
  case round =>
    obtain ⟨k, hk, rfl, HN, hbe⟩ := hrel
    by_cases hlt : k < l.length
    · obtain ⟨b, o, rfl, hb, hc⟩ := (HH.out.below hbe hB) (by omega)
      obtain ⟨pa, pc, ⟨hc0, hc1, hc2, hc3, hc4⟩, hin⟩ := hc k hlt
      have HC := hide (HP.out k hlt pa pc wr hbe hin)
      obtain ⟨z, hz⟩ : ∃ z, P l[k] = z := ⟨_, rfl⟩
      rw [hz] at HC
      have HZ := hide hz
      clear hz hc hin
      go_wp2_with fail
      rw [HE.out, Oper.upon_enter]
      refine HC.out.mono ?_
      rintro e w1 ⟨rfl, b1⟩
      have c1 := hbe.trans (b1.mono hbe.size)
      clear b1 HC hc0 hc1 hc2 hc3 hc4
      cases z
      · go_wp2
        go_roundw
        case rel => exact ⟨k + 1, by omega, by go_num, fun j hj hjk => if e : j = k then by subst e; exact HZ.out else HN.out j hj (by omega), c1⟩
        case measure => simp [intOf]; omega
      · go_wp2
        go_ret
        exact ⟨⟨_, rfl, .inr ⟨k, rfl, hlt, HZ.out, HN.out⟩⟩, c1⟩
    · go_wp2
      go_ret
      exact ⟨⟨_, rfl, .inl ⟨rfl, any_none (fun j hj => HN.out j hj (by omega))⟩⟩, hbe⟩


theorem any_lk {P : Lk → Bool} (l : List Lk) : (l.filter P).length = 0 ↔ l.any P = false := by
  rw [List.length_eq_zero_iff, List.filter_eq_nil_iff, Bool.eq_false_iff, ne_eq, List.any_eq_true]
  exact ⟨fun h ⟨x, hx, hp⟩ => h x hx hp, fun h x hx hp => h ⟨x, hx, hp⟩⟩

set_option maxHeartbeats 1000000 in
theorem containsO_any (fn : Nat) (hE : ∀ args w, (callFunc fn args).run Try.prog w = .ok (.enter fn args) w) (cp : Array Value) (P : Lk → Bool) (a : Option Addr) (l : List Lk) (cap B : Nat) (w : World) (h : Lks w B a l) (hB : B ≤ w.heap.size) (hl : l.length ≤ 1048577)
    (hP : ∀ k (hk : k < l.length) pa pc W, Below w.heap.size w W → LkIn W B l[k] pa pc → Calls Try.prog fn (#[.agg #[.int .i64 l[k].tk, .slice pa l[k].pa.length pc, .bool l[k].de, .bool l[k].sh, .int .i64 l[k].un]] ++ cp) W fun e w' => e = .returned (.bool (P l[k])) ∧ Below W.heap.size W w') :
    Calls Try.prog 68 #[.slice a l.length cap, .func (.func fn) #[] cp] w fun e w' => e = .returned (.bool (l.any P)) ∧ Below w.heap.size w w' := by
  have HQ := hide (indexO_any fn hE cp P a l cap B w h hB hl hP)
  clear h hP hE
  go_enter Try.func68, Try.ntmps68
  go_wp2_with fail
  refine HQ.out.mono ?_
  rintro e w1 ⟨⟨z, rfl, hz⟩, b1⟩
  have HZ := hide (placeB_any hz)
  have HB := hide b1
  clear hz b1
  go_wp2
  go_ret
  exact ⟨by rw [← HZ.out]; rfl, HB.out⟩

set_option maxHeartbeats 1000000 in
theorem heldFn_any (r : Lk) (pa : Option Addr) (pc N : Nat) (C : Nat) (ta : Option Addr) (toks : List Int) (tc : Nat) (w : World) (h : w.cell? ⟨N, 0, none⟩ = some (.slice ta toks.length tc)) (ht : Ints w C ta toks) (hC : C ≤ w.heap.size) (hl : toks.length ≤ 1048576) :
    Calls Try.prog 62 #[.agg #[.int .i64 r.tk, .slice pa r.pa.length pc, .bool r.de, .bool r.sh, .int .i64 r.un], .pointer (some ⟨N, 0, none⟩)] w fun e w' => e = .returned (.bool (hasTk toks r)) ∧ Below w.heap.size w w' := by
  have hb := (Below.refl w.heap.size w).alloc (Nat.le_refl _) (Obj.cells #[.int .i64 r.tk, .slice pa r.pa.length pc, .bool r.de, .bool r.sh, .int .i64 r.un] 102)
  have hN : N < w.heap.size := World.block_lt_of_cell? w _ h
  have h1 := (hb.cell (p := ⟨N, 0, none⟩) hN).trans h
  have HQ := hide (containsI_any ta toks tc C r.tk _ (ht.below hb hC) hl)
  have HB := hide hb
  clear hb ht h
  go_enter Try.func62, Try.ntmps62
  go_wp2_with fail
  refine HQ.out.mono ?_
  rintro e w1 ⟨rfl, hw⟩
  obtain rfl := hw.symm
  clear HQ hw
  go_wp2
  go_ret
  exact ⟨rfl, HB.out⟩

set_option maxHeartbeats 1000000 in
theorem sharedFn_any (r : Lk) (pa : Option Addr) (pc : Nat) (w : World) :
    Calls Try.prog 66 #[.agg #[.int .i64 r.tk, .slice pa r.pa.length pc, .bool r.de, .bool r.sh, .int .i64 r.un]] w fun e w' => e = .returned (.bool r.sh) ∧ Below w.heap.size w w' := by
  have HB := hide ((Below.refl w.heap.size w).alloc (Nat.le_refl _) (Obj.cells #[.int .i64 r.tk, .slice pa r.pa.length pc, .bool r.de, .bool r.sh, .int .i64 r.un] 102))
  go_enter Try.func66, Try.ntmps66
  go_wp2
  go_ret
  exact ⟨rfl, HB.out⟩

set_option maxHeartbeats 2000000 in
theorem missFn_any (r : Lk) (pa : Option Addr) (pc N M C : Nat) (ta : Option Addr) (toks : List Int) (tc : Nat) (w : World) (hM : w.cell? ⟨M, 0, none⟩ = some (.func (.func 62) #[] #[.pointer (some ⟨N, 0, none⟩)])) (h : w.cell? ⟨N, 0, none⟩ = some (.slice ta toks.length tc)) (ht : Ints w C ta toks) (hC : C ≤ w.heap.size) (hl : toks.length ≤ 1048576) :
    Calls Try.prog 67 #[.agg #[.int .i64 r.tk, .slice pa r.pa.length pc, .bool r.de, .bool r.sh, .int .i64 r.un], .pointer (some ⟨M, 0, none⟩)] w fun e w' => e = .returned (.bool (!r.sh && !hasTk toks r)) ∧ Below w.heap.size w w' := by
  have hb := (Below.refl w.heap.size w).alloc (Nat.le_refl _) (Obj.cells #[.int .i64 r.tk, .slice pa r.pa.length pc, .bool r.de, .bool r.sh, .int .i64 r.un] 102)
  have hN : N < w.heap.size := World.block_lt_of_cell? w _ h
  have hM2 : M < w.heap.size := World.block_lt_of_cell? w _ hM
  have h1 := (hb.cell (p := ⟨N, 0, none⟩) hN).trans h
  have h2 := (hb.cell (p := ⟨M, 0, none⟩) hM2).trans hM
  have HQ := hide (heldFn_any r pa pc N C ta toks tc _ h1 (ht.below hb hC) (Nat.le_trans hC hb.size) hl)
  have HB := hide hb
  clear hb ht h h1 hM
  obtain ⟨tk, tt, de, sh, un⟩ := r
  simp only at *
  generalize hasTk toks ⟨tk, tt, de, sh, un⟩ = hs at *
  cases sh
  · go_enter Try.func67, Try.ntmps67
    go_wp2_with fail
    refine HQ.out.mono ?_
    rintro e w1 ⟨rfl, b1⟩
    have HC1 := hide (HB.out.trans (b1.mono HB.out.size))
    clear b1 HQ h2
    go_wp2
    go_ret
    exact ⟨rfl, HC1.out⟩
  · go_enter Try.func67, Try.ntmps67
    clear HQ h2
    go_wp2
    go_ret
    exact ⟨rfl, HB.out⟩

set_option maxHeartbeats 2000000 in
theorem touchFn_any (r : Lk) (pa : Option Addr) (pc N M B C : Nat) (qa : Option Addr) (q : List ByteArray) (qc : Nat) (deep : Bool) (w : World) (h : w.cell? ⟨N, 0, none⟩ = some (.slice qa q.length qc)) (hM : w.cell? ⟨M, 0, none⟩ = some (.bool deep)) (hin : LkIn w B r pa pc) (hB : B ≤ w.heap.size) (hq : Strs w C qa q) (hC : C ≤ w.heap.size) (h1 : q.length ≤ qc) (h2 : qc ≤ maxLen) :
    Calls Try.prog 82 #[.agg #[.int .i64 r.tk, .slice pa r.pa.length pc, .bool r.de, .bool r.sh, .int .i64 r.un], .pointer (some ⟨N, 0, none⟩), .pointer (some ⟨M, 0, none⟩)] w fun e w' => e = .returned (.bool (touchB q deep r)) ∧ Below w.heap.size w w' := by
  have hb := (Below.refl w.heap.size w).alloc (Nat.le_refl _) (Obj.cells #[.int .i64 r.tk, .slice pa r.pa.length pc, .bool r.de, .bool r.sh, .int .i64 r.un] 102)
  have hN : N < w.heap.size := World.block_lt_of_cell? w _ h
  have hM2 : M < w.heap.size := World.block_lt_of_cell? w _ hM
  have c1 := (hb.cell (p := ⟨N, 0, none⟩) hN).trans h
  have c2 := (hb.cell (p := ⟨M, 0, none⟩) hM2).trans hM
  have HQ := hide (covers_any r pa pc qa q qc B C _ (hin.below hb hB) (Nat.le_trans hB hb.size) (hq.below hb hC) (Nat.le_trans hC hb.size) h1 h2)
  have HU := hide (fun w1 (hb1 : Below w.heap.size w w1) => under_any pa qa r.pa q pc qc B C w1 (hin.ph.below hb1 hB) (hq.below hb1 hC) hin.len (Nat.le_trans h1 h2) hin.pl hin.pm)
  have HX := hide (BoxV.made w [.int .i64 r.tk, .slice pa r.pa.length pc, .bool r.de, .bool r.sh, .int .i64 r.un] 102)
  have HB := hide hb
  have hsz : (w.alloc (Obj.cells #[.int .i64 r.tk, .slice pa r.pa.length pc, .bool r.de, .bool r.sh, .int .i64 r.un] 102)).heap.size = w.heap.size + 1 := by simp
  have HSZ := hide hsz
  have HT := hide (show touchB q deep r = (covB r q || (deep && underB r.pa q)) from rfl)
  clear hb hin hq h hM hsz
  generalize touchB q deep r = tb at *
  generalize covB r q = cv at *
  generalize underB r.pa q = un2 at *
  have hT := HT.out
  clear HT
  go_enter Try.func82, Try.ntmps82
  go_wp2_with fail
  refine HQ.out.mono ?_
  rintro e w1 ⟨rfl, b1⟩
  have HC1 := hide (HB.out.trans (b1.mono HB.out.size))
  have d1 := (b1.cell (p := ⟨N, 0, none⟩) (Nat.lt_of_lt_of_le hN HB.out.size)).trans c1
  have d2 := (b1.cell (p := ⟨M, 0, none⟩) (Nat.lt_of_lt_of_le hM2 HB.out.size)).trans c2
  have hx := (HX.out.next b1).2 1 _ rfl
  have hx1 := hx.1
  have HU1 := hide (HU.out w1 HC1.out)
  clear b1 HQ c1 c2 hx HU
  cases cv
  · cases deep
    · simp only [Bool.false_and, Bool.or_self] at hT
      subst hT
      go_wp2
      go_ret
      exact ⟨rfl, HC1.out⟩
    · simp only [Bool.true_and, Bool.false_or] at hT
      subst hT
      go_wp2_with fail
      refine HU1.out.mono ?_
      rintro e w2 ⟨rfl, b2⟩
      have HC2 := hide (HC1.out.trans (b2 _))
      clear b2
      go_wp2
      go_ret
      exact ⟨rfl, HC2.out⟩
  · simp only [Bool.true_or] at hT
    subst hT
    go_wp2
    go_ret
    exact ⟨rfl, HC1.out⟩

set_option maxHeartbeats 2000000 in
theorem touching_any (a : Option Addr) (l : List Lk) (cap B : Nat) (qa : Option Addr) (q : List ByteArray) (qc C : Nat) (deep : Bool) (w : World) (h : Lks w B a l) (hB : B ≤ w.heap.size) (hq : Strs w C qa q) (hC : C ≤ w.heap.size) (h1 : q.length ≤ qc) (h2 : qc ≤ maxLen) (hl : l.length ≤ 1048576) :
    Calls Try.prog 64 #[.slice a l.length cap, .slice qa q.length qc, .bool deep] w fun e w' => (∃ (g n c : Nat) (ts : List LkT), e = .returned (.slice (some ⟨g, 0, none⟩) n c) ∧ n = ts.length ∧ n ≤ c ∧ c ≤ maxLen ∧ g < w'.heap.size ∧ ts.map (·.r) = l.filter (touchB q deep) ∧ RowV w' g ts ∧ InV w' B ts) ∧ Below w.heap.size w w' := by
  have hmf : ∀ (fn : Fn) (first cap : Array Value) (w : World), (Instr.makeFunc fn first cap).run Try.prog w = .ok (.func fn first cap) w := fun _ _ _ _ => rfl
  have hb0 := ((Below.refl w.heap.size w).alloc (Nat.le_refl _) (Obj.cells #[.slice qa q.length qc] 38)).alloc (by simp) (Obj.cells #[.bool deep] 4)
  have hc1 : ((w.alloc (Obj.cells #[.slice qa q.length qc] 38)).alloc (Obj.cells #[.bool deep] 4)).cell? ⟨w.heap.size, 0, none⟩ = some (.slice qa q.length qc) := by simp
  have hc2 : ((w.alloc (Obj.cells #[.slice qa q.length qc] 38)).alloc (Obj.cells #[.bool deep] 4)).cell? ⟨w.heap.size + 1, 0, none⟩ = some (.bool deep) := by simp
  have HT := hide (those_any 82 (fun args w => enter_fn Try.func82 (by kernel_rfl) rfl args w) #[.pointer (some ⟨w.heap.size, 0, none⟩), .pointer (some ⟨w.heap.size + 1, 0, none⟩)] (touchB q deep) a l cap B _ (h.below hb0 hB) (Nat.le_trans hB hb0.size) (by omega) (fun k hk pa pc W hW hin => touchFn_any l[k] pa pc w.heap.size (w.heap.size + 1) B C qa q qc deep W ((hW.cell (p := ⟨w.heap.size, 0, none⟩) (by simp; try omega)).trans hc1) ((hW.cell (p := ⟨w.heap.size + 1, 0, none⟩) (by simp; try omega)).trans hc2) hin (Nat.le_trans (Nat.le_trans hB hb0.size) hW.size) ((hq.below hb0 hC).below hW (Nat.le_trans hC hb0.size)) (Nat.le_trans (Nat.le_trans hC hb0.size) hW.size) h1 h2))
  have HB0 := hide hb0
  clear hb0 hc1 hc2 h hq h1 h2
  go_enter Try.func64, Try.ntmps64
  go_wp2_with fail
  refine HT.out.mono ?_
  rintro e w1 ⟨⟨g, n, c, ts, rfl, hn, hc1, hc2, hg, hgl, hts, hrow, hin⟩, b1⟩
  have HC1 := hide (HB0.out.trans (b1.mono HB0.out.size))
  have HF := hide (And.intro hn (And.intro hc1 (And.intro hc2 (And.intro hgl (And.intro hts (And.intro hrow hin))))))
  clear hn hc1 hc2 hg hgl hts hrow hin b1 HT
  go_wp2
  go_ret
  exact ⟨⟨g, n, c, ts, rfl, HF.out⟩, HC1.out⟩
end Go.Proofs.Ytckhjemojopekaa
namespace Go.Proofs.Ytckhjemojopekaa
open Go.RowKit M
set_option linter.unusedVariables false

theorem dec_lk {P : Lk → Bool} (m : List Lk) : decide ((m.filter P).length = 0) = !(m.any P) := by
  cases h : m.any P with
  | false => rw [decide_eq_true ((any_lk m).2 h)]; rfl
  | true => rw [decide_eq_false (fun e => by rw [(any_lk m).1 e] at h; cases h)]; rfl
theorem all_lk (toks : List Int) (m : List Lk) : m.all (fun x => x.sh || hasTk toks x) = !(m.any fun x => !x.sh && !hasTk toks x) := by
  induction m with
  | nil => rfl
  | cons x r ih => simp only [List.all_cons, List.any_cons, ih, Bool.not_or, Bool.not_and, Bool.not_not]
theorem may_eq (l : List Lk) (q : List ByteArray) (deep : Bool) (toks : List Int) : mayB l q deep toks = (decide (((l.filter (touchB q deep)).filter fun x => !x.sh && !hasTk toks x).length = 0) && (decide (((l.filter (touchB q deep)).filter fun x => x.sh).length = 0) || ((l.filter (touchB q deep)).filter fun x => x.sh).any (hasTk toks))) := by
  unfold mayB
  generalize l.filter (touchB q deep) = m
  rw [dec_lk, dec_lk, all_lk, List.any_filter]

set_option maxRecDepth 100000 in
set_option maxHeartbeats 4000000 in
theorem mayTurn_any (a : Option Addr) (l : List Lk) (cap B : Nat) (qa : Option Addr) (q : List ByteArray) (qc C : Nat) (deep : Bool) (ta : Option Addr) (toks : List Int) (tc D : Nat) (w : World) (h : Lks w B a l) (hB : B ≤ w.heap.size) (hq : Strs w C qa q) (hC : C ≤ w.heap.size) (ht : Ints w D ta toks) (hD : D ≤ w.heap.size) (h1 : q.length ≤ qc) (h2 : qc ≤ maxLen) (hl : l.length ≤ 1048576) (htl : toks.length ≤ 1048576) :
    Calls Try.prog 37 #[.slice a l.length cap, .slice qa q.length qc, .bool deep, .slice ta toks.length tc] w fun e w' => e = .returned (.bool (mayB l q deep toks)) ∧ Below w.heap.size w w' := by
  have hmf : ∀ (fn : Fn) (first cap : Array Value) (w : World), (Instr.makeFunc fn first cap).run Try.prog w = .ok (.func fn first cap) w := fun _ _ _ _ => rfl
  obtain ⟨W2, hW2⟩ : ∃ W, ((w.alloc (Obj.cells #[.slice ta toks.length tc] 35)).alloc (Obj.cells #[.nilFunc] 109)).setCell ⟨w.heap.size + 1, 0, none⟩ (.func (.func 62) #[] #[.pointer (some ⟨w.heap.size, 0, none⟩)]) = W := ⟨_, rfl⟩
  have hst : (store ⟨w.heap.size + 1, 0, none⟩ (.func (.func 62) #[] #[.pointer (some ⟨w.heap.size, 0, none⟩)])).run Try.prog ((w.alloc (Obj.cells #[.slice ta toks.length tc] 35)).alloc (Obj.cells #[.nilFunc] 109)) = .ok () W2 := by
    rw [run_store _ _ _ _ _ rfl, ← hW2]
    simp
  have hb0 : Below w.heap.size w W2 := by rw [← hW2]; refine Below.setCell (Below.alloc (Below.alloc (Below.refl w.heap.size w) (Nat.le_refl _) _) ?_ _) ?_ _ <;> simp
  have hc1 : W2.cell? ⟨w.heap.size, 0, none⟩ = some (.slice ta toks.length tc) := by rw [← hW2]; simp [go_sem]
  have hc2 : W2.cell? ⟨w.heap.size + 1, 0, none⟩ = some (.func (.func 62) #[] #[.pointer (some ⟨w.heap.size, 0, none⟩)]) := by rw [← hW2]; simp [go_sem]
  have hz2 : W2.heap.size = w.heap.size + 2 := by rw [← hW2]; simp
  clear hW2
  have HM := hide (may_eq l q deep toks)
  have HQ := hide (touching_any a l cap B qa q qc C deep W2 (h.below hb0 hB) (Nat.le_trans hB hb0.size) (hq.below hb0 hC) (Nat.le_trans hC hb0.size) h1 h2 hl)
  have HC := hide (And.intro hc1 (And.intro hc2 (And.intro hz2 hb0)))
  have HT := hide ht
  clear hb0 hc1 hc2 hz2 h hq h1 h2 ht
  go_enter Try.func37, Try.ntmps37
  go_wp2_with fail
  clear hst
  refine HQ.out.mono ?_
  rintro e w1 ⟨⟨g, n, c, ts, rfl, hn, hc1, hc2, hgl, hts, hrow, hin⟩, b1⟩
  have HC1 := hide (HC.out.2.2.2.trans (b1.mono HC.out.2.2.2.size))
  have e1 := (b1.cell (p := ⟨w.heap.size, 0, none⟩) (by have := HC.out.2.2.1; simp; omega)).trans HC.out.1
  have e2 := (b1.cell (p := ⟨w.heap.size + 1, 0, none⟩) (by have := HC.out.2.2.1; simp; omega)).trans HC.out.2.1
  have HE1 := hide (And.intro e1 e2)
  have hz1 : w.heap.size + 2 ≤ w1.heap.size := by have := HC.out.2.2.1; have := b1.size; omega
  have hln : n = (l.filter (touchB q deep)).length := by rw [hn, ← hts, List.length_map]
  have hle := List.length_filter_le (touchB q deep) l
  have HLN := hide hln
  have HLK := hide (lks_of_rowV hts hrow hin (Nat.le_trans (Nat.le_trans hB HC.out.2.2.2.size) b1.size))
  have hnl : n ≤ 1048576 := by omega
  clear hln e1 e2 hn hc1 hc2 hgl hts hrow hin b1 HQ HC
  obtain ⟨m, hm⟩ : ∃ m, l.filter (touchB q deep) = m := ⟨_, rfl⟩
  rw [hm] at HLK HLN HM hle
  clear hm
  clear hle
  have HQS := those_any 66 (fun args w => enter_fn Try.func66 (by kernel_rfl) rfl args w) #[] (fun x => x.sh) (some ⟨g, 0, none⟩) m c w1.heap.size w1 HLK.out (Nat.le_refl _) (by have := HLN.out; omega) (fun k hk pa pc W hW hin => by simpa using sharedFn_any m[k] pa pc W)
  rw [← HLN.out] at HQS
  replace HQS := hide HQS
  go_wp2_with fail
  refine HQS.out.mono ?_
  rintro e w2 ⟨⟨g2, n2, c2, ts2, rfl, hn2, hc21, hc22, hg2, hgl2, hts2, hrow2, hin2⟩, b2⟩
  have HC2 := hide (HC1.out.trans (b2.mono HC1.out.size))
  have HE2 := hide (And.intro ((b2.cell (p := ⟨w.heap.size, 0, none⟩) (by show w.heap.size < _; omega)).trans HE1.out.1) ((b2.cell (p := ⟨w.heap.size + 1, 0, none⟩) (by show w.heap.size + 1 < _; omega)).trans HE1.out.2))
  have hln2 : n2 = (m.filter (fun x => x.sh)).length := by rw [hn2, ← hts2, List.length_map]
  have hle2 := List.length_filter_le (fun x : Lk => x.sh) m
  have hml : m.length ≤ 1048576 := by have := HLN.out; omega
  have HLN2 := hide hln2
  have HLK2 := hide (lks_of_rowV hts2 hrow2 hin2 b2.size)
  have HLKm := hide (HLK.out.below b2 (Nat.le_refl _))
  have hz2 := b2.size
  have hn2l : n2 ≤ 1048576 := by omega
  clear hml hle2 hln2 hn2 hc21 hc22 hg2 hgl2 hts2 hrow2 hin2 b2 HQS HE1 HC1 HLK
  have HQM := those_any 67 (fun args w => enter_fn Try.func67 (by kernel_rfl) rfl args w) #[.pointer (some ⟨w.heap.size + 1, 0, none⟩)] (fun x => !x.sh && !hasTk toks x) (some ⟨g, 0, none⟩) m c w1.heap.size w2 HLKm.out hz2 (by have := HLN.out; omega) (fun k hk pa pc W hW hin => missFn_any m[k] pa pc w.heap.size (w.heap.size + 1) D ta toks tc W ((hW.cell (p := ⟨w.heap.size + 1, 0, none⟩) (by show w.heap.size + 1 < _; omega)).trans HE2.out.2) ((hW.cell (p := ⟨w.heap.size, 0, none⟩) (by show w.heap.size < _; omega)).trans HE2.out.1) ((HT.out.below HC2.out hD).below hW (by omega)) (by have := hW.size; omega) htl)
  rw [← HLN.out] at HQM
  replace HQM := hide HQM
  go_wp2_with fail
  refine HQM.out.mono ?_
  rintro e w3 ⟨⟨g3, n3, c3, ts3, rfl, hn3, hc31, hc32, hg3, hgl3, hts3, hrow3, hin3⟩, b3⟩
  have HC3 := hide (HC2.out.trans (b3.mono HC2.out.size))
  have e1 := (b3.cell (p := ⟨w.heap.size, 0, none⟩) (by show w.heap.size < _; omega)).trans HE2.out.1
  have e2 := (b3.cell (p := ⟨w.heap.size + 1, 0, none⟩) (by show w.heap.size + 1 < _; omega)).trans HE2.out.2
  have hln3 : n3 = (m.filter (fun x => !x.sh && !hasTk toks x)).length := by rw [hn3, ← hts3, List.length_map]
  have HE1 := hide e1
  have HLK3 := hide (HLK2.out.below b3 (Nat.le_refl _))
  have hz3 := b3.size
  obtain ⟨M2, hM2⟩ : ∃ M, m.filter (fun x => x.sh) = M := ⟨_, rfl⟩
  rw [hM2] at HLK3 HLN2 HM
  clear hM2
  have HQH := containsO_any 62 (fun args w => enter_fn Try.func62 (by kernel_rfl) rfl args w) #[.pointer (some ⟨w.heap.size, 0, none⟩)] (hasTk toks) (some ⟨g2, 0, none⟩) M2 c2 w2.heap.size w3 HLK3.out hz3 (by have := HLN2.out; omega) (fun k hk pa pc W hW hin => heldFn_any _ pa pc w.heap.size D ta toks tc W ((hW.cell (p := ⟨w.heap.size, 0, none⟩) (by show w.heap.size < _; omega)).trans HE1.out) ((HT.out.below HC3.out hD).below hW (by omega)) (by have := hW.size; omega) htl)
  rw [← HLN2.out] at HQH
  replace HQH := hide HQH
  rw [← hln3, ← HLN2.out] at HM
  obtain ⟨z, hz⟩ : ∃ z, M2.any (hasTk toks) = z := ⟨_, rfl⟩
  rw [hz] at HM HQH
  clear hn3 hc31 hc32 hg3 hgl3 hts3 hrow3 hin3 b3 HQM HE1 HE2 HLK2 HLK3 HLKm HC2 hz e1 hln3 HLN HLN2
  by_cases h3 : n3 = 0
  · by_cases h2 : n2 = 0
    · rw [decide_eq_true h3, decide_eq_true h2] at HM
      have i3 : (n3 : Int) = 0 := by omega
      have i2 : (n2 : Int) = 0 := by omega
      clear HQH h3 h2
      go_wp2
      go_ret
      exact ⟨by rw [HM.out]; rfl, HC3.out⟩
    · rw [decide_eq_true h3, decide_eq_false h2] at HM
      have i3 : (n3 : Int) = 0 := by omega
      have i2 : ¬ (n2 : Int) = 0 := by omega
      have HB2 := hide (show ((n2 : Int) == 0) = false by simpa using h2)
      clear h3 h2
      go_wp2_with fail
      refine HQH.out.mono ?_
      rintro e w4 ⟨rfl, b4⟩
      have HC4 := hide (HC3.out.trans (b4.mono HC3.out.size))
      clear b4 HQH e2
      go_wp2
      go_ret
      exact ⟨by first | (rw [HM.out]; rfl) | (rw [HM.out, ← HB2.out]; rfl), HC4.out⟩
  · rw [decide_eq_false h3] at HM
    have i3 : ¬ (n3 : Int) = 0 := by omega
    clear HQH h3
    go_wp2
    go_ret
    exact ⟨by rw [HM.out]; rfl, HC3.out⟩
end Go.Proofs.Ytckhjemojopekaa
namespace Go.Proofs.Ytckhjemojopekaa
open Go.RowKit M
set_option linter.unusedVariables false

set_option maxHeartbeats 1000000 in
theorem specHas_any (a : Option Addr) (l : List Int) (cap B : Nat) (t : Int) (w : World) (h : Ints w B a l) (hl : l.length ≤ 1048576) :
    Calls Try.prog 54 #[.slice a l.length cap, .int .i64 t] w fun e w' => e = .returned (.bool (l.any (· == t))) ∧ w' = w := by
  have HH := hide h
  clear h
  go_enter Try.func54, Try.ntmps54
  go_wp2
  go_loopw [5] (fun i wr => ∃ k : Nat, k ≤ l.length ∧ i = .int .i64 k ∧ Hid (∀ j (hj : j < l.length), j < k → l[j] ≠ t) ∧ wr = w) (fun i _ => l.length - (intOf i).toNat)
  case atStart => exact ⟨0, Nat.zero_le _, rfl, fun j _ hj => absurd hj (Nat.not_lt_zero _), rfl⟩
  case round =>
    obtain ⟨k, hk, rfl, HN, hw⟩ := hrel
    obtain rfl := hw.symm
    by_cases hlt : k < l.length
    · obtain ⟨b, o, rfl, hb, hc⟩ := HH.out (by omega)
      have hck := hc k hlt
      clear hc
      by_cases hz : l[k] = t
      · have HA := hide (anyI_some hlt hz)
        go_wp2
        go_ret
        exact ⟨by rw [HA.out]; rfl, rfl⟩
      · have HZ := hide hz
        go_wp2
        go_roundw
        case rel => exact ⟨k + 1, by omega, by go_num, fun j hj hjk => if e : j = k then by subst e; exact HZ.out else HN.out j hj (by omega), by trivial⟩
        case measure => simp [intOf]; omega
    · have HA := hide (anyI_none (fun j hj => HN.out j hj (by omega)))
      go_wp2
      go_ret
      exact ⟨by rw [HA.out]; rfl, rfl⟩
end Go.Proofs.Ytckhjemojopekaa
namespace Go.Proofs.Ytckhjemojopekaa
open Go.RowKit
set_option linter.unusedVariables false

set_option maxHeartbeats 400000 in
theorem specSamePath_any (a b : Option Addr) (ss tt : List ByteArray) (cap cap' B C : Nat) (w : World) (h : Strs w B a ss) (h' : Strs w C b tt) (hl : ss.length ≤ maxLen) (hl' : tt.length ≤ maxLen) :
    Calls Try.prog 76 #[.slice a ss.length cap, .slice b tt.length cap'] w fun e w' => e = .returned (.bool (sameL ss tt)) ∧ ∀ D, Below D w w' := by
  unfold maxLen at hl hl'
  by_cases hlen : ss.length = tt.length
  · have HL : Hid (ss.length = tt.length) := hlen
    go_enter Try.func76, Try.ntmps76
    rw [← hlen]
    clear hlen
    go_wp2
    go_loopw [5] (fun i wr => ∃ k n : Nat, k ≤ ss.length ∧ i = .int .i64 k ∧ ss.take k = tt.take k ∧ wr = w.drewN n) (fun i _ => ss.length - (intOf i).toNat)
    case atStart => exact ⟨0, 0, Nat.zero_le _, rfl, rfl, rfl⟩
    case round =>
      obtain ⟨k, n, hk, rfl, ht, rfl⟩ := hrel
      have HT : Hid (ss.take k = tt.take k) := ht
      clear ht
      by_cases hlt : k < ss.length
      · have hlt' : k < tt.length := by have := HL.out; omega
        obtain ⟨b1, o1, rfl, hb1, hc1⟩ := h (by omega)
        obtain ⟨b2, o2, rfl, hb2, hc2⟩ := h' (by have := HL.out; omega)
        have hcx := hc1 k hlt
        have hcy := hc2 k hlt'
        go_wp2
        go_quiet (fail)
        go_wp2
        · rename_i hne
          have hne' : ¬ ss[k] = tt[k] := fun e => by rw [e] at hne; simp at hne
          go_ret
          exact ⟨ret_bool (sameL_not k hlt hlt' hne').symm, fun D => below_drewN (below_drewN (Below.refl _ _) _) _⟩
        · rename_i he
          have he' : ss[k] = tt[k] := str_inj (by simpa using he)
          go_roundw
          case rel => exact ⟨k + 1, n + nq, by omega, by go_num, take_same k hlt hlt' HT.out he', by simp⟩
          case measure => simp [intOf]; omega
      · go_wp2
        go_ret
        exact ⟨ret_bool (sameL_all HL.out k hlt HT.out).symm, fun D => below_drewN (Below.refl _ _) _⟩
  · have HS := sameL_len hlen
    go_enter Try.func76, Try.ntmps76
    go_wp2
    go_ret
    exact ⟨ret_bool HS.symm, fun D => Below.refl _ _⟩
end Go.Proofs.Ytckhjemojopekaa
namespace Go.Proofs.Ytckhjemojopekaa
open Go.RowKit
set_option linter.unusedVariables false

set_option maxHeartbeats 400000 in
theorem specUnder_any (a b : Option Addr) (ss tt : List ByteArray) (cap cap' B C : Nat) (w : World) (h : Strs w B a ss) (h' : Strs w C b tt) (hl : ss.length ≤ maxLen) (hl' : tt.length ≤ maxLen) (hc : ss.length ≤ cap) (hc' : cap ≤ maxLen) :
    Calls Try.prog 53 #[.slice a ss.length cap, .slice b tt.length cap'] w fun e w' => e = .returned (.bool (underB ss tt)) ∧ ∀ D, Below D w w' := by
  have hl1 := hl
  have hl2 := hl'
  have hc2 := hc'
  unfold maxLen at hl hl' hc'
  by_cases hlt : tt.length < ss.length
  · have ht : (ss.take tt.length).length = tt.length := by rw [List.length_take]; omega
    have cE := fun w1 cap1 (hh : Strs w1 B a ss) (hh' : Strs w1 C b tt) => specSamePath_any a b (ss.take tt.length) tt cap1 cap' B C w1 (hh.take _) hh' (by omega) hl2
    rw [ht] at cE
    obtain ⟨b1, o1, rfl, _, _⟩ := h (by omega)
    go_enter Try.func53, Try.ntmps53
    go_wp2_with fail
    refine (cE _ _ h h').mono ?_
    rintro e w1 ⟨rfl, hb⟩
    go_wp2
    go_ret
    exact ⟨ret_bool (by simp [underB, hlt]), hb⟩
  · go_enter Try.func53, Try.ntmps53
    go_wp2
    go_ret
    exact ⟨ret_bool (by simp [underB, hlt]), fun D => Below.refl _ _⟩

end Go.Proofs.Ytckhjemojopekaa
namespace Go.Proofs.Ytckhjemojopekaa
open Go.RowKit M
set_option linter.unusedVariables false

set_option maxHeartbeats 1000000 in
theorem specCovers_any (r : Lk) (pa : Option Addr) (pc : Nat) (a : Option Addr) (ss : List ByteArray) (cap B C : Nat) (w : World) (h : LkIn w B r pa pc) (hB : B ≤ w.heap.size) (h' : Strs w C a ss) (hC : C ≤ w.heap.size) (hl : ss.length ≤ cap) (hm : cap ≤ maxLen) :
    Calls Try.prog 52 #[.agg #[.int .i64 r.tk, .slice pa r.pa.length pc, .bool r.de, .bool r.sh, .int .i64 r.un], .slice a ss.length cap] w fun e w' => e = .returned (.bool (covB r ss)) ∧ Below w.heap.size w w' := by
  have l1 := h.len
  have p1 := h.ph
  have l2 : ss.length ≤ maxLen := Nat.le_trans hl hm
  have F1 : Hid (sameL r.pa ss = true → covB r ss = true) := fun e => by unfold covB; rw [e]; rfl
  have F2 : Hid (sameL r.pa ss = false → r.de = false → covB r ss = false) := fun e e' => by unfold covB; rw [e, e']; rfl
  have F3 : Hid (sameL r.pa ss = false → r.de = true → covB r ss = underB ss r.pa) := fun e e' => by unfold covB; rw [e, e']; rfl
  generalize covB r ss = dd at *
  clear h
  obtain ⟨tk, tt, de, sh, un⟩ := r
  simp only at *
  have hb0 : Below w.heap.size w (w.alloc (Obj.cells #[.int .i64 tk, .slice pa tt.length pc, .bool de, .bool sh, .int .i64 un] 102)) := (Below.refl _ _).alloc (Nat.le_refl _) _
  have hS := specSamePath_any pa a tt ss pc cap B C _ (p1.below hb0 hB) (h'.below hb0 hC) l1 l2
  have HU := hide (fun w1 (hb : ∀ D, Below D (w.alloc (Obj.cells #[.int .i64 tk, .slice pa tt.length pc, .bool de, .bool sh, .int .i64 un] 102)) w1) => specUnder_any a pa ss tt cap pc C B w1 ((h'.below hb0 hC).below (hb _) (Nat.le_refl _)) ((p1.below hb0 hB).below (hb _) (Nat.le_refl _)) l2 l1 hl hm)
  have HB0 := hide hb0
  clear hb0 p1 h'
  obtain ⟨z, hz⟩ : ∃ z, sameL tt ss = z := ⟨_, rfl⟩
  rw [hz] at hS
  have HS := hide hS
  clear hS
  cases z
  · cases de
    · rw [F2.out hz rfl]
      clear hz
      go_enter Try.func52, Try.ntmps52
      go_wp2_with fail
      refine HS.out.mono ?_
      rintro e w1 ⟨rfl, hb1⟩
      have hcl : ∀ b o, w1.cell? ⟨b, o, none⟩ = _ := fun b o => (hb1 (b + 1)).cell (p := ⟨b, o, none⟩) (Nat.lt_succ_self _)
      have HC1 := hide (HB0.out.trans (hb1 _))
      clear hb1
      go_wp2
      go_ret
      exact ⟨rfl, HC1.out⟩
    · rw [F3.out hz rfl]
      clear hz
      go_enter Try.func52, Try.ntmps52
      go_wp2_with fail
      refine HS.out.mono ?_
      rintro e w1 ⟨rfl, hb1⟩
      have hcl : ∀ b o, w1.cell? ⟨b, o, none⟩ = _ := fun b o => (hb1 (b + 1)).cell (p := ⟨b, o, none⟩) (Nat.lt_succ_self _)
      have HC1 := hide (HB0.out.trans (hb1 _))
      have HU1 := hide (HU.out w1 hb1)
      clear hb1
      go_wp2_with fail
      refine HU1.out.mono ?_
      rintro e w2 ⟨rfl, hb2⟩
      have c2 := HC1.out.trans (hb2 _)
      go_wp2
      go_ret
      exact ⟨rfl, c2⟩
  · rw [F1.out hz]
    clear hz
    go_enter Try.func52, Try.ntmps52
    go_wp2_with fail
    refine HS.out.mono ?_
    rintro e w1 ⟨rfl, hb1⟩
    have HC1 := hide (HB0.out.trans (hb1 _))
    clear hb1
    go_wp2
    go_ret
    exact ⟨rfl, HC1.out⟩
end Go.Proofs.Ytckhjemojopekaa
