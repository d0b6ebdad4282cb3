/-
  What impl.EvalIf does: closures that are asked of tokens and a mark.
-/
import Derived.Test.YtmgikfeknmbpbabHasI
import Derived.Test.YtmgikfeknmbpbabConds
import Derived.Test.YtmgikfeknmbpbabMathSub
import Derived.Deep.RegionHeld3
namespace Go.Proofs.Ytmgikfeknmbpbab
open Go.RowKit M
set_option linter.unusedVariables false

theorem any_noneG {α : Type} {P : α → Bool} {l : List α} (h : ∀ j (hj : j < l.length), P l[j] = false) : l.any P = false := by
  rw [Bool.eq_false_iff]
  intro e
  obtain ⟨x, hx, hp⟩ := List.any_eq_true.1 e
  obtain ⟨j, hj, rfl⟩ := List.mem_iff_getElem.1 hx
  rw [h j hj] at hp
  cases hp
theorem enterE {P : Program} {f : FuncId} {fn : Func} {c : Code} (hf : P.funcs[f]? = some fn) (hname : (fn.name == "runtime.NumGoroutine") = false) (hb : fn.body = some c) (args : Array Value) (w : World) : (callFunc f args).run P w = .ok (.enter f args) w := by
  have h1 : fn.name ≠ "runtime.NumGoroutine" := by simpa using hname
  simp [callFunc, hf, h1, hb]
theorem makeE : ∀ (fn : Fn) (first cap : Array Value) (w : World), (Instr.makeFunc fn first cap).run Try.prog w = .ok (.func fn first cap) w := fun _ _ _ _ => rfl

set_option maxRecDepth 100000 in
set_option maxHeartbeats 4000000 in
theorem indexC_any (fn : Nat) (hE : ∀ args w, (callFunc fn args).run Try.prog w = .ok (.enter fn args) w) (cp : Array Value) (P : Cn → Bool) (a : Option Addr) (l : List Cn) (cap B : Nat) (w : World) (h : Cns w B a l) (hB : B ≤ w.heap.size) (hl : l.length ≤ 1048577)
    (hP : ∀ k (hk : k < l.length) W, Below w.heap.size w W → Calls Try.prog fn (#[.agg #[.bool l[k].no, .int .i64 l[k].tk, .string l[k].tg]] ++ cp) W fun e w' => e = .returned (.bool (P l[k])) ∧ Below W.heap.size W w') :
    Calls Try.prog 37 #[.slice a l.length cap, .func (.func fn) #[] cp] w fun e w' => (∃ z : Int, e = .returned (.int .i64 z) ∧ decide (0 ≤ z) = l.any P) ∧ Below w.heap.size w w' := by
  have HH := hide h
  have HP := hide hP
  have HE := hide hE
  clear h hP hE
  go_enter Try.func37, Try.ntmps37
  go_wp2
  go_loopw [8] (fun i wr => ∃ k : Nat, k ≤ l.length ∧ i = .int .i64 k ∧ Hid (∀ j (hj : j < l.length), j < k → P l[j] = false) ∧ Below w.heap.size w wr) (fun i _ => l.length - (intOf i).toNat)
  case atStart => exact ⟨0, Nat.zero_le _, rfl, fun j _ hj => absurd hj (Nat.not_lt_zero _), Below.refl _ _⟩
  case round =>
    obtain ⟨k, hk, rfl, HN, hbe⟩ := hrel
    by_cases hlt : k < l.length
    · obtain ⟨b, o, rfl, hb, hc⟩ := (HH.out.below hbe hB) (by omega)
      obtain ⟨d0, d1, d2⟩ := hc k hlt
      have HC := hide (HP.out k hlt wr hbe)
      obtain ⟨z, hz⟩ : ∃ z, P l[k] = z := ⟨_, rfl⟩
      rw [hz] at HC
      have HZ := hide hz
      clear hz hc
      go_wp2_with fail
      rw [HE.out, Oper.upon_enter]
      refine HC.out.mono ?_
      rintro e w1 ⟨rfl, b1⟩
      have c1 := hbe.trans (b1.mono hbe.size)
      clear b1 HC d0 d1 d2
      cases z
      · go_wp2
        go_roundw
        case rel => exact ⟨k + 1, by omega, by go_num, fun j hj hjk => if e : j = k then by subst e; exact HZ.out else HN.out j hj (by omega), c1⟩
        case measure => simp [intOf]; omega
      · have HA := hide (show l.any P = true from List.any_eq_true.2 ⟨l[k], List.getElem_mem hlt, HZ.out⟩)
        go_wp2
        go_ret
        exact ⟨⟨_, rfl, by rw [HA.out]; simp⟩, c1⟩
    · have HA := hide (show l.any P = false from any_noneG (fun j hj => HN.out j hj (by omega)))
      go_wp2
      go_ret
      exact ⟨⟨_, rfl, by rw [HA.out]; rfl⟩, hbe⟩

set_option maxHeartbeats 1000000 in
theorem containsC_any (fn : Nat) (hE : ∀ args w, (callFunc fn args).run Try.prog w = .ok (.enter fn args) w) (cp : Array Value) (P : Cn → Bool) (a : Option Addr) (l : List Cn) (cap B : Nat) (w : World) (h : Cns w B a l) (hB : B ≤ w.heap.size) (hl : l.length ≤ 1048577)
    (hP : ∀ k (hk : k < l.length) W, Below w.heap.size w W → Calls Try.prog fn (#[.agg #[.bool l[k].no, .int .i64 l[k].tk, .string l[k].tg]] ++ cp) W fun e w' => e = .returned (.bool (P l[k])) ∧ Below W.heap.size W w') :
    Calls Try.prog 30 #[.slice a l.length cap, .func (.func fn) #[] cp] w fun e w' => e = .returned (.bool (l.any P)) ∧ Below w.heap.size w w' := by
  have HQ := hide (indexC_any fn hE cp P a l cap B w h hB hl hP)
  clear h hP hE
  go_enter Try.func30, Try.ntmps30
  go_wp2_with fail
  refine HQ.out.mono ?_
  rintro e w1 ⟨⟨z, rfl, hz⟩, b1⟩
  have HZ := hide hz
  have HB := hide b1
  clear hz b1
  go_wp2
  go_ret
  exact ⟨by rw [← HZ.out]; rfl, HB.out⟩

set_option maxRecDepth 100000 in
set_option maxHeartbeats 4000000 in
theorem indexCC_any (fn : Nat) (hE : ∀ args w, (callFunc fn args).run Try.prog w = .ok (.enter fn args) w) (cp : Array Value) (P : (List Cn) → Bool) (a : Option Addr) (l : List (List Cn)) (cap B : Nat) (w : World) (h : Cnss w B a l) (hB : B ≤ w.heap.size) (hl : l.length ≤ 1048577)
    (hP : ∀ k (hk : k < l.length) pa pc W, Below w.heap.size w W → CsIn W B pa l[k] pc → Calls Try.prog fn (#[.slice pa l[k].length pc] ++ cp) W fun e w' => e = .returned (.bool (P l[k])) ∧ Below W.heap.size W w') :
    Calls Try.prog 31 #[.slice a l.length cap, .func (.func fn) #[] cp] w fun e w' => (∃ z : Int, e = .returned (.int .i64 z) ∧ decide (0 ≤ z) = l.any P) ∧ Below w.heap.size w w' := by
  have HH := hide h
  have HP := hide hP
  have HE := hide hE
  clear h hP hE
  go_enter Try.func31, Try.ntmps31
  go_wp2
  go_loopw [8] (fun i wr => ∃ k : Nat, k ≤ l.length ∧ i = .int .i64 k ∧ Hid (∀ j (hj : j < l.length), j < k → P l[j] = false) ∧ Below w.heap.size w wr) (fun i _ => l.length - (intOf i).toNat)
  case atStart => exact ⟨0, Nat.zero_le _, rfl, fun j _ hj => absurd hj (Nat.not_lt_zero _), Below.refl _ _⟩
  case round =>
    obtain ⟨k, hk, rfl, HN, hbe⟩ := hrel
    by_cases hlt : k < l.length
    · obtain ⟨b, o, rfl, hb, hc⟩ := (HH.out.below hbe hB) (by omega)
      obtain ⟨pa, pc, d0, hin⟩ := hc k hlt
      have HC := hide (HP.out k hlt pa pc wr hbe hin)
      obtain ⟨z, hz⟩ : ∃ z, P l[k] = z := ⟨_, rfl⟩
      rw [hz] at HC
      have HZ := hide hz
      clear hz hc hin
      go_wp2_with fail
      rw [HE.out, Oper.upon_enter]
      refine HC.out.mono ?_
      rintro e w1 ⟨rfl, b1⟩
      have c1 := hbe.trans (b1.mono hbe.size)
      clear b1 HC d0
      cases z
      · go_wp2
        go_roundw
        case rel => exact ⟨k + 1, by omega, by go_num, fun j hj hjk => if e : j = k then by subst e; exact HZ.out else HN.out j hj (by omega), c1⟩
        case measure => simp [intOf]; omega
      · have HA := hide (show l.any P = true from List.any_eq_true.2 ⟨l[k], List.getElem_mem hlt, HZ.out⟩)
        go_wp2
        go_ret
        exact ⟨⟨_, rfl, by rw [HA.out]; simp⟩, c1⟩
    · have HA := hide (show l.any P = false from any_noneG (fun j hj => HN.out j hj (by omega)))
      go_wp2
      go_ret
      exact ⟨⟨_, rfl, by rw [HA.out]; rfl⟩, hbe⟩

set_option maxHeartbeats 1000000 in
theorem containsCC_any (fn : Nat) (hE : ∀ args w, (callFunc fn args).run Try.prog w = .ok (.enter fn args) w) (cp : Array Value) (P : (List Cn) → Bool) (a : Option Addr) (l : List (List Cn)) (cap B : Nat) (w : World) (h : Cnss w B a l) (hB : B ≤ w.heap.size) (hl : l.length ≤ 1048577)
    (hP : ∀ k (hk : k < l.length) pa pc W, Below w.heap.size w W → CsIn W B pa l[k] pc → Calls Try.prog fn (#[.slice pa l[k].length pc] ++ cp) W fun e w' => e = .returned (.bool (P l[k])) ∧ Below W.heap.size W w') :
    Calls Try.prog 22 #[.slice a l.length cap, .func (.func fn) #[] cp] w fun e w' => e = .returned (.bool (l.any P)) ∧ Below w.heap.size w w' := by
  have HQ := hide (indexCC_any fn hE cp P a l cap B w h hB hl hP)
  clear h hP hE
  go_enter Try.func22, Try.ntmps22
  go_wp2_with fail
  refine HQ.out.mono ?_
  rintro e w1 ⟨⟨z, rfl, hz⟩, b1⟩
  have HZ := hide hz
  have HB := hide b1
  clear hz b1
  go_wp2
  go_ret
  exact ⟨by rw [← HZ.out]; rfl, HB.out⟩

/-- A closure that answers b, asked of these tokens and this mark, in whatever world is behind. -/
def Must (W : World) (f : Value) (ta : Option Addr) (toks : List Int) (tc : Nat) (tag : ByteArray) (b : Bool) : Prop :=
  ∃ fn cp, f = .func (.func fn) #[] cp ∧ (∀ args w, (callFunc fn args).run Try.prog w = .ok (.enter fn args) w) ∧ ∀ W', Below W.heap.size W W' → Calls Try.prog fn (#[.slice ta toks.length tc, .string tag] ++ cp) W' fun e w' => e = .returned (.bool b) ∧ Below W'.heap.size W' w'
theorem Must.next {W W' : World} {f : Value} {ta : Option Addr} {toks : List Int} {tc : Nat} {tag : ByteArray} {b : Bool} (h : Must W f ta toks tc tag b) (hb : Below W.heap.size W W') : Must W' f ta toks tc tag b := by
  obtain ⟨fn, cp, e, h1, h2⟩ := h
  exact ⟨fn, cp, e, h1, fun V hV => h2 V (hb.trans (hV.mono hb.size))⟩

set_option maxHeartbeats 1000000 in
theorem tagIs1_any (N tc : Nat) (s tag : ByteArray) (ta : Option Addr) (toks : List Int) (w : World) (h : w.cell? ⟨N, 0, none⟩ = some (.string s)) :
    Calls Try.prog 38 #[.slice ta toks.length tc, .string tag, .pointer (some ⟨N, 0, none⟩)] w fun e w' => e = .returned (.bool (tag.toList == s.toList)) ∧ w' = w := by
  go_enter Try.func38, Try.ntmps38
  go_wp2
  go_ret
  exact ⟨rfl, rfl⟩
set_option maxHeartbeats 1000000 in
theorem tagIs_any (s tag : ByteArray) (ta : Option Addr) (toks : List Int) (tc : Nat) (w : World) :
    Calls Try.prog 34 #[.string s] w fun e w' => (∃ f, e = .returned f ∧ Must w' f ta toks tc tag (s.toList == tag.toList)) ∧ Below w.heap.size w w' := by
  have hmf := makeE
  have HM := hide (show Must (w.alloc (Obj.cells #[.string s] 9)) (.func (.func 38) #[] #[.pointer (some ⟨w.heap.size, 0, none⟩)]) ta toks tc tag (s.toList == tag.toList) from
    ⟨_, _, rfl, fun args w => enterE Try.func38 (by kernel_rfl) rfl args w, fun W' hb => (tagIs1_any w.heap.size tc s tag ta toks W' ((hb.cell (p := ⟨w.heap.size, 0, none⟩) (by simp)).trans (by simp))).mono (by
      rintro e w' ⟨rfl, rfl⟩
      exact ⟨by rw [Bool.beq_comm], Below.refl _ _⟩)⟩)
  go_enter Try.func34, Try.ntmps34
  go_wp2
  go_ret
  exact ⟨⟨_, rfl, HM.out⟩, (Below.refl _ _).alloc (Nat.le_refl _) _⟩
set_option maxHeartbeats 1000000 in
theorem token1_any (N tc D : Nat) (n : Int) (tag : ByteArray) (ta : Option Addr) (toks : List Int) (w : World) (h : w.cell? ⟨N, 0, none⟩ = some (.int .i64 n)) (ht : Ints w D ta toks) (hl : toks.length ≤ 1048576) :
    Calls Try.prog 39 #[.slice ta toks.length tc, .string tag, .pointer (some ⟨N, 0, none⟩)] w fun e w' => e = .returned (.bool (toks.any (· == n))) ∧ w' = w := by
  have HQ := hide (containsI_any ta toks tc D n w ht hl)
  clear ht
  go_enter Try.func39, Try.ntmps39
  go_wp2_with fail
  refine HQ.out.mono ?_
  rintro e w1 ⟨rfl, hw⟩
  obtain rfl := hw.symm
  go_wp2
  go_ret
  exact ⟨rfl, rfl⟩
set_option maxHeartbeats 1000000 in
theorem token_any (n : Int) (tag : ByteArray) (ta : Option Addr) (toks : List Int) (tc D : Nat) (w : World) (ht : Ints w D ta toks) (hD : D ≤ w.heap.size) (hl : toks.length ≤ 1048576) :
    Calls Try.prog 35 #[.int .i64 n] w fun e w' => (∃ f, e = .returned f ∧ Must w' f ta toks tc tag (toks.any (· == n))) ∧ Below w.heap.size w w' := by
  have hmf := makeE
  have hb0 := (Below.refl w.heap.size w).alloc (Nat.le_refl _) (Obj.cells #[.int .i64 n] 3)
  have HM := hide (show Must (w.alloc (Obj.cells #[.int .i64 n] 3)) (.func (.func 39) #[] #[.pointer (some ⟨w.heap.size, 0, none⟩)]) ta toks tc tag (toks.any (· == n)) from
    ⟨_, _, rfl, fun args w => enterE Try.func39 (by kernel_rfl) rfl args w, fun W' hb => (token1_any w.heap.size tc D n tag ta toks W' ((hb.cell (p := ⟨w.heap.size, 0, none⟩) (by simp)).trans (by simp)) ((ht.below hb0 hD).below hb (Nat.le_trans hD hb0.size)) hl).mono (by
      rintro e w' ⟨rfl, rfl⟩
      exact ⟨rfl, Below.refl _ _⟩)⟩)
  clear ht hb0
  go_enter Try.func35, Try.ntmps35
  go_wp2
  go_ret
  exact ⟨⟨_, rfl, HM.out⟩, (Below.refl _ _).alloc (Nat.le_refl _) _⟩
set_option maxHeartbeats 1000000 in
theorem notSo1_any (N tc : Nat) (f : Value) (tag : ByteArray) (ta : Option Addr) (toks : List Int) (b : Bool) (w : World) (h : w.cell? ⟨N, 0, none⟩ = some f) (hm : Must w f ta toks tc tag b) :
    Calls Try.prog 41 #[.slice ta toks.length tc, .string tag, .pointer (some ⟨N, 0, none⟩)] w fun e w' => e = .returned (.bool (!b)) ∧ Below w.heap.size w w' := by
  obtain ⟨fn, cp, rfl, hE, hC⟩ := hm
  have HE := hide hE
  have HC := hide (hC w (Below.refl _ _))
  clear hE hC
  go_enter Try.func41, Try.ntmps41
  go_wp2_with fail
  rw [HE.out, Oper.upon_enter]
  refine HC.out.mono ?_
  rintro e w1 ⟨rfl, b1⟩
  go_wp2
  go_ret
  exact ⟨rfl, b1⟩
set_option maxHeartbeats 1000000 in
theorem notSo_any (f : Value) (tag : ByteArray) (ta : Option Addr) (toks : List Int) (tc : Nat) (b : Bool) (w : World) (hm : Must w f ta toks tc tag b) :
    Calls Try.prog 36 #[f] w fun e w' => (∃ f, e = .returned f ∧ Must w' f ta toks tc tag (!b)) ∧ Below w.heap.size w w' := by
  have hmf := makeE
  obtain ⟨fn, cp, rfl, hE, hC⟩ := hm
  have hb0 := (Below.refl w.heap.size w).alloc (Nat.le_refl _) (Obj.cells #[.func (.func fn) #[] cp] 44)
  have HM := hide (show Must (w.alloc (Obj.cells #[.func (.func fn) #[] cp] 44)) (.func (.func 41) #[] #[.pointer (some ⟨w.heap.size, 0, none⟩)]) ta toks tc tag (!b) from
    ⟨_, _, rfl, fun args w => enterE Try.func41 (by kernel_rfl) rfl args w, fun W' hb => notSo1_any w.heap.size tc (.func (.func fn) #[] cp) tag ta toks b W' ((hb.cell (p := ⟨w.heap.size, 0, none⟩) (by simp)).trans (by simp)) (Must.next (Must.next ⟨fn, cp, rfl, hE, hC⟩ hb0) hb)⟩)
  clear hE hC hb0
  go_enter Try.func36, Try.ntmps36
  go_wp2
  go_ret
  exact ⟨⟨_, rfl, HM.out⟩, (Below.refl _ _).alloc (Nat.le_refl _) _⟩

set_option maxHeartbeats 2000000 in
theorem mustOf_any (c : Cn) (tag : ByteArray) (ta : Option Addr) (toks : List Int) (tc D : Nat) (w : World) (ht : Ints w D ta toks) (hD : D ≤ w.heap.size) (hl : toks.length ≤ 1048576) :
    Calls Try.prog 29 #[.agg #[.bool c.no, .int .i64 c.tk, .string c.tg]] w fun e w' => (∃ f, e = .returned f ∧ Must w' f ta toks tc tag (condB toks tag c)) ∧ Below w.heap.size w w' := by
  obtain ⟨no, tk, tg⟩ := c
  have hb0 := (Below.refl w.heap.size w).alloc (Nat.le_refl _) (Obj.cells #[.bool no, .int .i64 tk, .string tg] 40)
  have HT := hide (tagIs_any tg tag ta toks tc (w.alloc (Obj.cells #[.bool no, .int .i64 tk, .string tg] 40)))
  have HX := hide (BoxV.made w [.bool no, .int .i64 tk, .string tg] 40)
  have HB := hide hb0
  have HIN := hide (ht.below hb0 hD)
  have HCB := hide (show condB toks tag ⟨no, tk, tg⟩ = ((if tk = 0 then tg.toList == tag.toList else toks.any (· == tk)) != no) from rfl)
  have hD0 := Nat.le_trans hD hb0.size
  clear ht hb0
  show Calls Try.prog 29 #[.agg #[.bool no, .int .i64 tk, .string tg]] w _
  go_enter Try.func29, Try.ntmps29
  go_wp2_with fail
  refine HT.out.mono ?_
  rintro e w1 ⟨⟨f1, rfl, hm1⟩, b1⟩
  have HM1 := hide hm1
  have HC1 := hide (HB.out.trans (b1.mono HB.out.size))
  have HI1 := hide (HIN.out.below b1 hD0)
  have HX1 := hide (HX.out.next b1)
  have hD1 := Nat.le_trans hD HC1.out.size
  clear hm1 b1 HT HX HB HIN
  have q0 := (HX1.out.2 0 _ rfl).1
  have q1 := (HX1.out.2 1 _ rfl).1
  by_cases hz : tk = 0
  · rw [if_pos hz] at HCB
    subst hz
    cases no
    · have HR := hide (show Must w1 f1 ta toks tc tag (condB toks tag ⟨false, 0, tg⟩) by rw [HCB.out]; simpa using HM1.out)
      go_wp2
      go_ret
      exact ⟨⟨_, rfl, HR.out⟩, HC1.out⟩
    · have HN := hide (notSo_any f1 tag ta toks tc _ w1 HM1.out)
      go_wp2_with fail
      refine HN.out.mono ?_
      rintro e w2 ⟨⟨f2, rfl, hm2⟩, b2⟩
      have HM2 := hide hm2
      have HC2 := hide (HC1.out.trans (b2.mono HC1.out.size))
      clear hm2 b2 q0 q1
      go_wp2
      go_ret
      exact ⟨⟨_, rfl, by rw [HCB.out]; simpa using HM2.out⟩, HC2.out⟩
  · rw [if_neg hz] at HCB
    have hz1 : (tk == 0) = false := by simpa using hz
    have hz2 : (tk != 0) = true := by simpa using hz
    have HK := hide (token_any tk tag ta toks tc D w1 HI1.out hD1 hl)
    clear hz HM1
    go_wp2_with fail
    refine HK.out.mono ?_
    rintro e w2 ⟨⟨f2, rfl, hm2⟩, b2⟩
    have HM2 := hide hm2
    have HC2 := hide (HC1.out.trans (b2.mono HC1.out.size))
    have HX2 := hide (HX1.out.next b2)
    clear hm2 b2 q0 q1 HK HX1 HC1 HI1
    have q0 := (HX2.out.2 0 _ rfl).1
    cases no
    · go_wp2
      go_ret
      exact ⟨⟨_, rfl, by rw [HCB.out]; simpa using HM2.out⟩, HC2.out⟩
    · have HN := hide (notSo_any f2 tag ta toks tc _ w2 HM2.out)
      go_wp2_with fail
      refine HN.out.mono ?_
      rintro e w3 ⟨⟨f3, rfl, hm3⟩, b3⟩
      have HM3 := hide hm3
      have HC3 := hide (HC2.out.trans (b3.mono HC2.out.size))
      clear hm3 b3 q0
      go_wp2
      go_ret
      exact ⟨⟨_, rfl, by rw [HCB.out]; simpa using HM3.out⟩, HC3.out⟩
end Go.Proofs.Ytmgikfeknmbpbab
