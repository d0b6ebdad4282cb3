/-
  Which lists of things are right: no program in sight.
  Lists of locks that are right: no program in sight.
  Whether a server is right: no program in sight.
  What slices.IndexFunc at things does, and slices.ContainsFunc.
  What slices.IndexFunc at locks does.
  What slices.IndexFunc at numbers does.
  What is told of locks, and which stay: no program in sight.
  Two answers that are the same.
  What spec.l13Has does.
  What slices.Contains at numbers does.
  What the specification's l1In does; a byte as an int.
  What impl.tokenOk does.
-/
import Derived.Test.YtcgljeagjchobaaGreatMathBack3
import Derived.Test.YtcgljeagjchobaaGreatGenSrv
import Derived.Test.YtcgljeagjchobaaGreatTurn
import Derived.Test.YtcgljeagjchobaaGreatGenPick
import Derived.Test.YtcgljeagjchobaaGreatPlaceB
import Derived.Test.YtcgljeagjchobaaGreatLockOps
import Derived.WalkSpells
import Derived.WalkLawsBesides
import Derived.Deep.Light
import Derived.Deep.QuietTactic
import Derived.Test.YtcgljeagjchobaaGreatRows
import Derived.WalkKit
namespace Go.Proofs.YtcgljeagjchobaaGreat
open M

def resB (r : Rs) : Bool := decide (0 < r.pa.length) && (pathB r.pa && (decide (r.bo.size ≤ 200) && ((!r.co || decide (r.bo.size = 0)) && (inB r.ve 0 99999 && propsB r.ps))))
def lessR (a b : Rs) : Bool := lessL a.pa b.pa
def onB (rs : List Rs) (r : Rs) : Bool := collB rs (aboveL r.pa)
def treeB (rs : List Rs) : Bool := decide (rs.length ≤ 12) && (rs.all resB && (ascB lessR rs && rs.all (onB rs)))

theorem treeB_long {rs : List Rs} (h : ¬ rs.length ≤ 12) : treeB rs = false := by unfold treeB; rw [decide_eq_false h]; rfl
theorem treeB_bad {rs : List Rs} (k : Nat) (h : k < rs.length) (e : resB rs[k] = false) : treeB rs = false := by
  unfold treeB
  have : rs.all resB = false := by
    rw [List.all_eq_false]
    exact ⟨_, List.getElem_mem h, by simp [e]⟩
  rw [this]; simp
theorem treeB_desc {rs : List Rs} (k : Nat) (h : k + 1 < rs.length) (e : lessR rs[k] rs[k + 1] = false) : treeB rs = false := by
  unfold treeB
  rw [ascB_not lessR rs k h e]; simp
theorem treeB_off {rs : List Rs} (k : Nat) (h : k < rs.length) (e : onB rs rs[k] = false) : treeB rs = false := by
  unfold treeB
  have : rs.all (onB rs) = false := by
    rw [List.all_eq_false]
    exact ⟨_, List.getElem_mem h, by simp [e]⟩
  rw [this]; simp
theorem all_of {rs : List Rs} {q : Rs → Bool} (h : ∀ j (hj : j < rs.length), q rs[j] = true) : rs.all q = true := by
  rw [List.all_eq_true]
  intro p hp
  obtain ⟨j, hj, rfl⟩ := List.mem_iff_getElem.1 hp
  exact h j hj
theorem treeB_of {rs : List Rs} (h : ∀ j (hj : j < rs.length), resB rs[j] = true) : treeB rs = (decide (rs.length ≤ 12) && (ascB lessR rs && rs.all (onB rs))) := by
  unfold treeB
  rw [all_of h]; simp

/-! ### The order is a whole one -/
theorem bytesLess_trans : ∀ a b c : List UInt8, Op.bytesLess a b = true → Op.bytesLess b c = true → Op.bytesLess a c = true
  | [], [], _, h, _ => by simp [Op.bytesLess] at h
  | [], _ :: _, [], _, h => by simp [Op.bytesLess] at h
  | [], _ :: _, _ :: _, _, _ => by simp [Op.bytesLess]
  | _ :: _, [], _, h, _ => by simp [Op.bytesLess] at h
  | _ :: _, _ :: _, [], _, h => by simp [Op.bytesLess] at h
  | x :: a, y :: b, z :: c, h, h' => by
    have ih := bytesLess_trans a b c
    simp only [Op.bytesLess, Bool.or_eq_true, Bool.and_eq_true, decide_eq_true_eq, beq_iff_eq] at *
    rcases h with h | ⟨rfl, h⟩
    · rcases h' with h' | ⟨rfl, h'⟩
      · left
        have h1 : x.toNat < y.toNat := h
        have h2 : y.toNat < z.toNat := h'
        exact (show x.toNat < z.toNat by omega)
      · exact .inl h
    · rcases h' with h' | ⟨rfl, h'⟩
      · exact .inl h'
      · exact .inr ⟨rfl, ih h h'⟩
theorem lessL_trans : ∀ a b c : List ByteArray, lessL a b = true → lessL b c = true → lessL a c = true
  | [], [], _, h, _ => by simp [lessL] at h
  | [], _ :: _, [], _, h => by simp [lessL] at h
  | [], _ :: _, _ :: _, _, _ => by simp [lessL]
  | _ :: _, [], _, h, _ => by simp [lessL] at h
  | _ :: _, _ :: _, [], _, h => by simp [lessL] at h
  | x :: a, y :: b, z :: c, h, h' => by
    have ih := lessL_trans a b c
    rw [lessL] at *
    by_cases e1 : x = y
    · subst e1
      rw [if_pos rfl] at h
      by_cases e2 : x = z
      · subst e2
        rw [if_pos rfl] at *
        exact ih h h'
      · rw [if_neg e2] at *
        exact h'
    · rw [if_neg e1] at h
      by_cases e2 : y = z
      · subst e2
        rw [if_neg e1]
        exact h
      · rw [if_neg e2] at h'
        have ht := bytesLess_trans _ _ _ h h'
        have hne : ¬ x = z := fun e => by
          subst e
          have := bytesLess_asym _ _ h
          have h2 : Op.bytesLess y.toList x.toList = true := h'
          rw [this] at h2
          cases h2
        rw [if_neg hne]
        exact ht
theorem asc_pair {rs : List Rs} (h : ascB lessR rs = true) : ∀ (d i : Nat) (hj : i + d + 1 < rs.length), lessL (rs[i]'(by omega)).pa (rs[i + d + 1]).pa = true := by
  have step : ∀ (i : Nat) (hi : i + 1 < rs.length), lessL (rs[i]'(by omega)).pa (rs[i + 1]).pa = true := fun i hi => by
    cases e : lessR rs[i] rs[i + 1]
    · rw [ascB_not lessR rs i hi e] at h; cases h
    · exact e
  intro d
  induction d with
  | zero => intro i hj; exact step i hj
  | succ d ih =>
    intro i hj
    exact lessL_trans _ _ _ (ih i (by omega)) (step (i + d + 1) (by omega))
theorem asc_apart {rs : List Rs} (h : ascB lessR rs = true) (i j : Nat) (hi : i < rs.length) (hj : j < rs.length) (e : rs[i].pa = rs[j].pa) : i = j := by
  have key : ∀ i j (hij : i < j) (hj : j < rs.length), (rs[i]'(by omega)).pa ≠ rs[j].pa := fun i j hij hj e => by
    obtain ⟨d, rfl⟩ : ∃ d, j = i + d + 1 := ⟨j - i - 1, by omega⟩
    have h1 := asc_pair h d i hj
    rw [← e, lessL_irr] at h1
    cases h1
  rcases Nat.lt_trichotomy i j with h1 | h1 | h1
  · exact absurd e (key i j h1 hj)
  · exact h1
  · exact absurd e.symm (key j i h1 hi)

/-! ### Texts of paths -/
def pt (p : List ByteArray) : ByteArray := bytesOf (ptextL p)
theorem pt_inj {p q : List ByteArray} (hp : pathB p = true) (hq : pathB q = true) (h : pt p = pt q) : p = q := by
  have e : ptextL p = ptextL q := by
    have := congrArg (fun x : ByteArray => x.data.toList) h
    simpa [pt, bytesOf] using this
  have h1 := parseP_text hp
  have h2 := parseP_text hq
  rw [e, h2] at h1
  exact (Prod.mk.inj h1).1.symm
theorem pathB_above {p : List ByteArray} (h : pathB p = true) : pathB (aboveL p) = true := by
  unfold pathB at *
  rw [Bool.and_eq_true, decide_eq_true_eq, List.all_eq_true] at *
  exact ⟨fun s hs => h.1 s (List.mem_of_mem_take hs), by rw [aboveL_len]; omega⟩
theorem pathB_nil : pathB [] = true := by decide
theorem resB_path {r : Rs} (h : resB r = true) : pathB r.pa = true := by
  unfold resB at h
  simp only [Bool.and_eq_true] at h
  exact h.2.1

/-- What is left of the paths that something is on. -/
def LeftP (rs : List Rs) (s : ByteArray) : Prop := ((∃ r ∈ rs, s = pt (aboveL r.pa)) ∧ s ≠ pt []) ∧ ∀ r ∈ rs, r.co = true → s ≠ pt r.pa
theorem left_none {rs : List Rs} (hr : ∀ r ∈ rs, resB r = true) (ha : ascB lessR rs = true) : (∀ s, ¬ LeftP rs s) ↔ rs.all (onB rs) = true := by
  rw [List.all_eq_true]
  constructor
  · intro h r hm
    have hn := h (pt (aboveL r.pa))
    unfold onB
    by_cases e0 : (aboveL r.pa).length = 0
    · exact collB_root e0
    · have hp := pathB_above (resB_path (hr r hm))
      have hex : ∃ r' ∈ rs, r'.co = true ∧ r'.pa = aboveL r.pa := by
        by_cases hh : ∃ r' ∈ rs, r'.co = true ∧ pt (aboveL r.pa) = pt r'.pa
        · obtain ⟨r', hm', hc, he⟩ := hh
          exact ⟨r', hm', hc, (pt_inj hp (resB_path (hr r' hm')) he).symm⟩
        · exfalso
          refine hn ⟨⟨⟨r, hm, rfl⟩, fun e => e0 ?_⟩, fun r' hm' hc he => hh ⟨r', hm', hc, he⟩⟩
          rw [pt_inj hp pathB_nil e]; rfl
      obtain ⟨r', hm', hc, he⟩ := hex
      obtain ⟨j, hj, rfl⟩ := List.mem_iff_getElem.1 hm'
      rcases findI_cases rs (aboveL r.pa) with e | ⟨k, hk, e, hs⟩
      · exfalso
        have := collB_none e e0
        unfold findI at e
        by_cases hlt : rs.findIdx (isAt (aboveL r.pa)) < rs.length
        · rw [if_pos hlt] at e; omega
        · exact hlt (List.findIdx_lt_length_of_exists ⟨_, hm', by unfold isAt; rw [he]; exact sameL_refl _⟩)
      · rw [collB_at k hk e e0]
        have hk' : rs[k].pa = aboveL r.pa := by unfold sameL at hs; exact of_decide_eq_true hs
        have := asc_apart ha k j hk hj (hk'.trans he.symm)
        subst this
        exact hc
  · rintro h s ⟨⟨⟨r, hm, rfl⟩, h0⟩, h1⟩
    have hc := h r hm
    unfold onB at hc
    by_cases e0 : (aboveL r.pa).length = 0
    · rw [List.length_eq_zero_iff.1 e0] at h0; exact h0 rfl
    · rcases findI_cases rs (aboveL r.pa) with e | ⟨k, hk, e, hs⟩
      · rw [collB_none e e0] at hc; cases hc
      · rw [collB_at k hk e e0] at hc
        have hk' : rs[k].pa = aboveL r.pa := by unfold sameL at hs; exact of_decide_eq_true hs
        exact h1 _ (List.getElem_mem hk) hc (by rw [hk'])
end Go.Proofs.YtcgljeagjchobaaGreat
namespace Go.Proofs.YtcgljeagjchobaaGreat
open Go.RowKit M
set_option linter.unusedVariables false

theorem locksB_long {l : List Lk} (h : ¬ l.length ≤ 6) : locksB l = false := by unfold locksB; rw [decide_eq_false h]; rfl
theorem locksB_at {l : List Lk} (i : Nat) (hi : i < l.length) (h : okLkAt l i = false) : locksB l = false := by
  unfold locksB
  have : (List.range l.length).all (okLkAt l) = false := by
    rw [Bool.eq_false_iff]
    intro e
    rw [List.all_eq_true] at e
    rw [e i (List.mem_range.2 hi)] at h
    cases h
  rw [this, Bool.and_false]
theorem locksB_not {l : List Lk} (i : Nat) (hi : i < l.length) (h : lockB l[i] = false) : locksB l = false := by
  apply locksB_at i hi
  unfold okLkAt
  rw [List.getElem?_eq_getElem hi]
  simp only [h, Bool.false_and]
theorem locksB_bar {l : List Lk} (k i : Nat) (hk : k < i) (hi : i < l.length) (h : barB (l[k]'(by omega)) l[i] = true) : locksB l = false := by
  apply locksB_at i hi
  unfold okLkAt
  rw [List.getElem?_eq_getElem hi]
  have : (l.take i).all (fun y => !barB y l[i]) = false := by
    rw [Bool.eq_false_iff]
    intro e
    rw [List.all_eq_true] at e
    have hm : l[k]'(by omega) ∈ l.take i := by
      rw [List.mem_iff_getElem]
      exact ⟨k, by rw [List.length_take]; omega, by rw [List.getElem_take]⟩
    have := e _ hm
    rw [h] at this
    cases this
  simp only [this, Bool.and_false]
theorem locksB_yes {l : List Lk} (h6 : l.length ≤ 6) (h1 : ∀ i (hi : i < l.length), lockB l[i] = true) (h2 : ∀ i k (hk : k < i) (hi : i < l.length), barB (l[k]'(by omega)) l[i] = false) : locksB l = true := by
  unfold locksB
  rw [decide_eq_true h6, Bool.true_and, List.all_eq_true]
  intro i hi
  have hi' : i < l.length := List.mem_range.1 hi
  unfold okLkAt
  rw [List.getElem?_eq_getElem hi']
  simp only [h1 i hi', Bool.true_and, List.all_eq_true]
  intro y hy
  obtain ⟨k, hk, rfl⟩ := List.mem_iff_getElem.1 hy
  have hk' : k < i := by rw [List.length_take] at hk; omega
  rw [List.getElem_take, h2 i k hk' hi']
  rfl
theorem bar_tk {a b : Lk} (h : a.tk = b.tk) : barB a b = true := by unfold barB; rw [decide_eq_true h]; rfl
theorem bar_cl {a b : Lk} (h : ¬ a.tk = b.tk) : barB a b = clashB a b := by unfold barB; rw [decide_eq_false h]; rfl
end Go.Proofs.YtcgljeagjchobaaGreat
namespace Go.Proofs.YtcgljeagjchobaaGreat
open Go.RowKit M
set_option linter.unusedVariables false

/-- All versions are below the next one. -/
def versB (t : List Rs) (v : Int) : Bool := t.all fun r => decide (r.ve < v)
/-- All tokens were drawn. -/
def drewB (l : List Lk) (us : List Int) : Bool := l.all fun x => us.any (· == x.tk)
def ltI (a b : Int) : Bool := decide (a < b)
/-- Numbers 1 .. 9999, ascending. -/
def usedB (us : List Int) : Bool := us.all (fun n => inB n 1 9999) && ascB ltI us
def srvB (s : Sv) : Bool := treeB s.t && (versB s.t s.ver && (locksB s.l && (drewB s.l s.us && (inB s.now 0 9999999 && (inB s.ver 1 100000 && (decide (s.dr.length ≤ 20) && usedB s.us))))))

theorem all_to {α : Type} {P : α → Bool} {l : List α} {k : Nat} (h : ∀ j (hj : j < l.length), j < k → P l[j] = true) (hk : l.length ≤ k) : l.all P = true := by
  rw [List.all_eq_true]
  intro x hx
  obtain ⟨j, hj, rfl⟩ := List.mem_iff_getElem.1 hx
  exact h j hj (by omega)
theorem all_not {α : Type} {P : α → Bool} {l : List α} {k : Nat} (hk : k < l.length) (h : P l[k] = false) : l.all P = false := by
  rw [Bool.eq_false_iff]
  intro e
  rw [List.all_eq_true.1 e _ (List.getElem_mem hk)] at h
  cases h
theorem any_all {α : Type} (P : α → Bool) (l : List α) : l.any P = !(l.all fun x => !P x) := by
  induction l with
  | nil => rfl
  | cons x r ih => simp only [List.any_cons, List.all_cons, ih, Bool.not_and, Bool.not_not]
theorem usedB_to {l : List Int} (h : ∀ i (hi : i < l.length), inB l[i] 1 9999 = true ∧ (∀ h0 : 0 < i, l[i - 1] < l[i])) : usedB l = true := by
  unfold usedB
  rw [all_to (k := l.length) (fun j hj _ => (h j hj).1) (Nat.le_refl _), ascB_all ltI l (fun i hi => by have := (h (i + 1) hi).2 (Nat.succ_pos _); unfold ltI; exact decide_eq_true (by simpa using this))]
  rfl
theorem usedB_not {l : List Int} {i : Nat} (hi : i < l.length) (h : inB l[i] 1 9999 = false) : usedB l = false := by
  unfold usedB
  rw [all_not (P := fun n => inB n 1 9999) hi h]
  rfl
theorem usedB_asc {l : List Int} {i : Nat} (hi : i < l.length) (h0 : 0 < i) (h : ¬ l[i - 1] < l[i]) : usedB l = false := by
  unfold usedB
  have h1 : i - 1 + 1 = i := by omega
  rw [ascB_not ltI l (i - 1) (by omega) (by unfold ltI; exact decide_eq_false (by simp only [h1]; exact h)), Bool.and_false]
/-- Another order. -/
theorem srvB_spec (s : Sv) : srvB s = (versB s.t s.ver && (drewB s.l s.us && (usedB s.us && (treeB s.t && (locksB s.l && (inB s.now 0 9999999 && (inB s.ver 1 100000 && decide (s.dr.length ≤ 20)))))))) := by
  unfold srvB
  cases treeB s.t <;> cases versB s.t s.ver <;> cases locksB s.l <;> cases drewB s.l s.us <;> cases inB s.now 0 9999999 <;> cases inB s.ver 1 100000 <;> cases decide (s.dr.length ≤ 20) <;> cases usedB s.us <;> rfl
end Go.Proofs.YtcgljeagjchobaaGreat
namespace Go.Proofs.YtcgljeagjchobaaGreat
open Go.RowKit M
set_option linter.unusedVariables false

set_option maxRecDepth 100000 in
set_option maxHeartbeats 4000000 in
theorem indexR_any (fn : Nat) (hE : ∀ args w, (callFunc fn args).run Tryz.prog w = .ok (.enter fn args) w) (cp : Array Value) (P : Rs → Bool) (a : Option Addr) (l : List Rs) (cap B : Nat) (w : World) (h : Rss w B a l) (hB : B ≤ w.heap.size) (hl : l.length ≤ 1048577)
    (hP : ∀ k (hk : k < l.length) pa pc qa qc W, Below w.heap.size w W → RsIn W B l[k] pa pc qa qc → Calls Tryz.prog fn (#[.agg #[.slice pa l[k].pa.length pc, .bool l[k].co, .string l[k].bo, .int .i64 l[k].ve, .slice qa l[k].ps.length qc]] ++ cp) W fun e w' => e = .returned (.bool (P l[k])) ∧ Below W.heap.size W w') :
    Calls Tryz.prog 105 #[.slice a l.length cap, .func (.func fn) #[] cp] w fun e w' => (∃ z : Int, e = .returned (.int .i64 z) ∧ placeB P l z) ∧ Below w.heap.size w w' := by
  have HH := hide h
  have HP := hide hP
  have HE := hide hE
  clear h hP hE
  go_enter Tryz.func105, Tryz.ntmps105
  go_wp2
  go_loopw [8] (fun i wr => ∃ k : Nat, k ≤ l.length ∧ i = .int .i64 k ∧ Hid (∀ j (hj : j < l.length), j < k → P l[j] = false) ∧ Below w.heap.size w wr) (fun i _ => l.length - (intOf i).toNat)
  case atStart => exact ⟨0, Nat.zero_le _, rfl, fun j _ hj => absurd hj (Nat.not_lt_zero _), Below.refl _ _⟩
  case round =>
    obtain ⟨k, hk, rfl, HN, hbe⟩ := hrel
    by_cases hlt : k < l.length
    · obtain ⟨b, o, rfl, hb, hc⟩ := (HH.out.below hbe hB) (by omega)
      obtain ⟨pa, pc, qa, qc, ⟨hc0, hc1, hc2, hc3, hc4⟩, hin⟩ := hc k hlt
      have HC := hide (HP.out k hlt pa pc qa qc wr hbe hin)
      obtain ⟨z, hz⟩ : ∃ z, P l[k] = z := ⟨_, rfl⟩
      rw [hz] at HC
      have HZ := hide hz
      clear hz hc hin
      go_wp2_with fail
      rw [HE.out, Oper.upon_enter]
      refine HC.out.mono ?_
      rintro e w1 ⟨rfl, b1⟩
      have c1 := hbe.trans (b1.mono hbe.size)
      clear b1 HC hc0 hc1 hc2 hc3 hc4
      cases z
      · go_wp2
        go_roundw
        case rel => exact ⟨k + 1, by omega, by go_num, fun j hj hjk => if e : j = k then by subst e; exact HZ.out else HN.out j hj (by omega), c1⟩
        case measure => simp [intOf]; omega
      · go_wp2
        go_ret
        exact ⟨⟨_, rfl, .inr ⟨k, rfl, hlt, HZ.out, HN.out⟩⟩, c1⟩
    · go_wp2
      go_ret
      exact ⟨⟨_, rfl, .inl ⟨rfl, any_none (fun j hj => HN.out j hj (by omega))⟩⟩, hbe⟩

end Go.Proofs.YtcgljeagjchobaaGreat
namespace Go.Proofs.YtcgljeagjchobaaGreat
open Go.RowKit M
set_option linter.unusedVariables false

set_option maxRecDepth 100000 in
set_option maxHeartbeats 4000000 in
theorem indexL_any (fn : Nat) (hE : ∀ args w, (callFunc fn args).run Tryz.prog w = .ok (.enter fn args) w) (cp : Array Value) (P : Lk → Bool) (a : Option Addr) (l : List Lk) (cap B : Nat) (w : World) (h : Lks w B a l) (hB : B ≤ w.heap.size) (hl : l.length ≤ 1048577)
    (hP : ∀ k (hk : k < l.length) pa pc W, Below w.heap.size w W → LkIn W B l[k] pa pc → Calls Tryz.prog fn (#[.agg #[.int .i64 l[k].tk, .slice pa l[k].pa.length pc, .bool l[k].de, .bool l[k].sh, .int .i64 l[k].un]] ++ cp) W fun e w' => e = .returned (.bool (P l[k])) ∧ Below W.heap.size W w') :
    Calls Tryz.prog 107 #[.slice a l.length cap, .func (.func fn) #[] cp] w fun e w' => (∃ z : Int, e = .returned (.int .i64 z) ∧ placeB P l z) ∧ Below w.heap.size w w' := by
  have HH := hide h
  have HP := hide hP
  have HE := hide hE
  clear h hP hE
  go_enter Tryz.func107, Tryz.ntmps107
  go_wp2
  go_loopw [8] (fun i wr => ∃ k : Nat, k ≤ l.length ∧ i = .int .i64 k ∧ Hid (∀ j (hj : j < l.length), j < k → P l[j] = false) ∧ Below w.heap.size w wr) (fun i _ => l.length - (intOf i).toNat)
  case atStart => exact ⟨0, Nat.zero_le _, rfl, fun j _ hj => absurd hj (Nat.not_lt_zero _), Below.refl _ _⟩
  case round =>
    obtain ⟨k, hk, rfl, HN, hbe⟩ := hrel
    by_cases hlt : k < l.length
    · obtain ⟨b, o, rfl, hb, hc⟩ := (HH.out.below hbe hB) (by omega)
      obtain ⟨pa, pc, ⟨hc0, hc1, hc2, hc3, hc4⟩, hin⟩ := hc k hlt
      have HC := hide (HP.out k hlt pa pc wr hbe hin)
      obtain ⟨z, hz⟩ : ∃ z, P l[k] = z := ⟨_, rfl⟩
      rw [hz] at HC
      have HZ := hide hz
      clear hz hc hin
      go_wp2_with fail
      rw [HE.out, Oper.upon_enter]
      refine HC.out.mono ?_
      rintro e w1 ⟨rfl, b1⟩
      have c1 := hbe.trans (b1.mono hbe.size)
      clear b1 HC hc0 hc1 hc2 hc3 hc4
      cases z
      · go_wp2
        go_roundw
        case rel => exact ⟨k + 1, by omega, by go_num, fun j hj hjk => if e : j = k then by subst e; exact HZ.out else HN.out j hj (by omega), c1⟩
        case measure => simp [intOf]; omega
      · go_wp2
        go_ret
        exact ⟨⟨_, rfl, .inr ⟨k, rfl, hlt, HZ.out, HN.out⟩⟩, c1⟩
    · go_wp2
      go_ret
      exact ⟨⟨_, rfl, .inl ⟨rfl, any_none (fun j hj => HN.out j hj (by omega))⟩⟩, hbe⟩

end Go.Proofs.YtcgljeagjchobaaGreat
namespace Go.Proofs.YtcgljeagjchobaaGreat
open Go.RowKit
set_option linter.unusedVariables false

set_option maxRecDepth 100000 in
set_option maxHeartbeats 4000000 in
theorem indexN_any (fn : Nat) (hE : ∀ args w, (callFunc fn args).run Tryz.prog w = .ok (.enter fn args) w) (cp : Array Value) (P : Int → Bool) (a : Option Addr) (l : List Int) (cap B : Nat) (w : World) (h : Ints w B a l) (hB : B ≤ w.heap.size) (hl : l.length ≤ 1048577)
    (hP : ∀ k (hk : k < l.length) W, Below w.heap.size w W → Calls Tryz.prog fn (#[.int .i64 l[k]] ++ cp) W fun e w' => e = .returned (.bool (P l[k])) ∧ Below W.heap.size W w') :
    Calls Tryz.prog 109 #[.slice a l.length cap, .func (.func fn) #[] cp] w fun e w' => (∃ z : Int, e = .returned (.int .i64 z) ∧ placeB P l z) ∧ Below w.heap.size w w' := by
  have HH := hide h
  have HP := hide hP
  have HE := hide hE
  clear h hP hE
  go_enter Tryz.func109, Tryz.ntmps109
  go_wp2
  go_loopw [8] (fun i wr => ∃ k : Nat, k ≤ l.length ∧ i = .int .i64 k ∧ Hid (∀ j (hj : j < l.length), j < k → P l[j] = false) ∧ Below w.heap.size w wr) (fun i _ => l.length - (intOf i).toNat)
  case atStart => exact ⟨0, Nat.zero_le _, rfl, fun j _ hj => absurd hj (Nat.not_lt_zero _), Below.refl _ _⟩
  case round =>
    obtain ⟨k, hk, rfl, HN, hbe⟩ := hrel
    by_cases hlt : k < l.length
    · obtain ⟨b, o, rfl, hb, hc⟩ := (HH.out.below hbe hB) (by omega)
      have hc0 := hc k hlt
      have HC := hide (HP.out k hlt wr hbe)
      obtain ⟨z, hz⟩ : ∃ z, P l[k] = z := ⟨_, rfl⟩
      rw [hz] at HC
      have HZ := hide hz
      clear hz hc
      go_wp2_with fail
      rw [HE.out, Oper.upon_enter]
      refine HC.out.mono ?_
      rintro e w1 ⟨rfl, b1⟩
      have c1 := hbe.trans (b1.mono hbe.size)
      clear b1 HC hc0
      cases z
      · go_wp2
        go_roundw
        case rel => exact ⟨k + 1, by omega, by go_num, fun j hj hjk => if e : j = k then by subst e; exact HZ.out else HN.out j hj (by omega), c1⟩
        case measure => simp [intOf]; omega
      · go_wp2
        go_ret
        exact ⟨⟨_, rfl, .inr ⟨k, rfl, hlt, HZ.out, HN.out⟩⟩, c1⟩
    · go_wp2
      go_ret
      exact ⟨⟨_, rfl, .inl ⟨rfl, any_none (fun j hj => HN.out j hj (by omega))⟩⟩, hbe⟩

end Go.Proofs.YtcgljeagjchobaaGreat
namespace Go.Proofs.YtcgljeagjchobaaGreat
open Go.RowKit M
set_option linter.unusedVariables false

def liveB (now : Int) (x : Lk) : Bool := decide (now < x.un)
def tokL (l : List Lk) (p : List ByteArray) : List Int := (l.filter fun x => covB x p).map (·.tk)
def isTk (t : Int) (x : Lk) : Bool := x.tk == t
def dropL (t : Int) : List Lk → List Lk
  | [] => []
  | x :: r => if isTk t x = true then r else x :: dropL t r
theorem dropL_none (t : Int) (l : List Lk) (h : l.any (isTk t) = false) : dropL t l = l := by
  induction l with
  | nil => rfl
  | cons x r ih =>
    simp only [List.any_cons, Bool.or_eq_false_iff] at h
    simp only [dropL, h.1, Bool.false_eq_true, if_false]
    rw [ih h.2]
theorem dropL_snoc (t : Int) (l : List Lk) (x : Lk) : dropL t (l ++ [x]) = if l.any (isTk t) = true then dropL t l ++ [x] else if isTk t x = true then dropL t l else dropL t l ++ [x] := by
  induction l with
  | nil => by_cases h : isTk t x = true <;> simp [dropL, h]
  | cons y r ih =>
    by_cases h : isTk t y = true
    · simp [dropL, h]
    · simp only [List.cons_append, dropL, h, Bool.false_eq_true, if_false, List.any_cons, Bool.false_or, ih]
      split
      · rfl
      · split <;> rfl
theorem dropL_at (t : Int) (l : List Lk) (k : Nat) (hk : k < l.length) (h : isTk t l[k] = true) (h0 : ∀ j (hj : j < l.length), j < k → isTk t l[j] = false) : dropL t l = l.take k ++ l.drop (k + 1) := by
  induction l generalizing k with
  | nil => cases hk
  | cons x r ih =>
    cases k with
    | zero => simp at h; simp [dropL, h]
    | succ k =>
      have hx : isTk t x = false := h0 0 (by simp) (Nat.succ_pos _)
      have := ih k (by simpa using hk) (by simpa using h) (fun j hj hjk => by have := h0 (j + 1) (by simpa using hj) (by omega); simpa using this)
      simp [dropL, hx, this]
theorem dropL_sub (t : Int) (l : List Lk) : List.Sublist (dropL t l) l := by
  induction l with
  | nil => exact .slnil
  | cons x r ih =>
    simp only [dropL]
    split
    · exact List.sublist_cons_self _ _
    · exact ih.cons_cons _

/-- Whether a lock must let by what turns at p. -/
def touchB (p : List ByteArray) (deep : Bool) (x : Lk) : Bool := covB x p || (deep && underB x.pa p)
def hasB (toks : List Int) (x : Lk) : Bool := toks.any (· == x.tk)
def mayB (l : List Lk) (p : List ByteArray) (deep : Bool) (toks : List Int) : Bool :=
  (l.filter (touchB p deep)).all (fun x => x.sh || hasB toks x) && (!(l.filter (touchB p deep)).any (·.sh) || (l.filter (touchB p deep)).any (fun x => x.sh && hasB toks x))
/-- What is there behind a lock is added. -/
def addL (l : List Lk) (x : Lk) : List Lk := if locksB (l ++ [x]) = true then l ++ [x] else l
end Go.Proofs.YtcgljeagjchobaaGreat
namespace Go.Proofs.YtcgljeagjchobaaGreat

theorem ret_bool {a b : Bool} (h : a = b) : Ending.returned (.bool a) = .returned (.bool b) := by rw [h]
end Go.Proofs.YtcgljeagjchobaaGreat
namespace Go.Proofs.YtcgljeagjchobaaGreat
open Go.RowKit M
set_option linter.unusedVariables false

theorem anyI_none {t : Int} {l : List Int} (h : ∀ j (hj : j < l.length), l[j] ≠ t) : l.any (· == t) = false := by
  rw [Bool.eq_false_iff]
  intro e
  obtain ⟨x, hx, hp⟩ := List.any_eq_true.1 e
  obtain ⟨j, hj, rfl⟩ := List.mem_iff_getElem.1 hx
  exact h j hj (by simpa using hp)
theorem anyI_some {t : Int} {l : List Int} {k : Nat} (hk : k < l.length) (h : l[k] = t) : l.any (· == t) = true :=
  List.any_eq_true.2 ⟨l[k], List.getElem_mem hk, by simpa using h⟩

set_option maxHeartbeats 1000000 in
theorem specHas_any (a : Option Addr) (l : List Int) (cap B : Nat) (t : Int) (w : World) (h : Ints w B a l) (hl : l.length ≤ 1048576) :
    Calls Tryz.prog 20 #[.slice a l.length cap, .int .i64 t] w fun e w' => e = .returned (.bool (l.any (· == t))) ∧ w' = w := by
  have HH := hide h
  clear h
  go_enter Tryz.func20, Tryz.ntmps20
  go_wp2
  go_loopw [5] (fun i wr => ∃ k : Nat, k ≤ l.length ∧ i = .int .i64 k ∧ Hid (∀ j (hj : j < l.length), j < k → l[j] ≠ t) ∧ wr = w) (fun i _ => l.length - (intOf i).toNat)
  case atStart => exact ⟨0, Nat.zero_le _, rfl, fun j _ hj => absurd hj (Nat.not_lt_zero _), rfl⟩
  case round =>
    obtain ⟨k, hk, rfl, HN, hw⟩ := hrel
    obtain rfl := hw.symm
    by_cases hlt : k < l.length
    · obtain ⟨b, o, rfl, hb, hc⟩ := HH.out (by omega)
      have hck := hc k hlt
      clear hc
      by_cases hz : l[k] = t
      · have HA := hide (anyI_some hlt hz)
        go_wp2
        go_ret
        exact ⟨by rw [HA.out]; rfl, rfl⟩
      · have HZ := hide hz
        go_wp2
        go_roundw
        case rel => exact ⟨k + 1, by omega, by go_num, fun j hj hjk => if e : j = k then by subst e; exact HZ.out else HN.out j hj (by omega), by trivial⟩
        case measure => simp [intOf]; omega
    · have HA := hide (anyI_none (fun j hj => HN.out j hj (by omega)))
      go_wp2
      go_ret
      exact ⟨by rw [HA.out]; rfl, rfl⟩
end Go.Proofs.YtcgljeagjchobaaGreat
namespace Go.Proofs.YtcgljeagjchobaaGreat
open Go.RowKit M
set_option linter.unusedVariables false

set_option maxHeartbeats 1000000 in
theorem indexI_any (a : Option Addr) (l : List Int) (cap B : Nat) (t : Int) (w : World) (h : Ints w B a l) (hl : l.length ≤ 1048576) :
    Calls Tryz.prog 108 #[.slice a l.length cap, .int .i64 t] w fun e w' => (∃ z : Int, e = .returned (.int .i64 z) ∧ decide (0 ≤ z) = l.any (· == t)) ∧ w' = w := by
  have HH := hide h
  clear h
  go_enter Tryz.func108, Tryz.ntmps108
  go_wp2
  go_loopw [8] (fun i wr => ∃ k : Nat, k ≤ l.length ∧ i = .int .i64 k ∧ Hid (∀ j (hj : j < l.length), j < k → l[j] ≠ t) ∧ wr = w) (fun i _ => l.length - (intOf i).toNat)
  case atStart => exact ⟨0, Nat.zero_le _, rfl, fun j _ hj => absurd hj (Nat.not_lt_zero _), rfl⟩
  case round =>
    obtain ⟨k, hk, rfl, HN, hw⟩ := hrel
    obtain rfl := hw.symm
    by_cases hlt : k < l.length
    · obtain ⟨b, o, rfl, hb, hc⟩ := HH.out (by omega)
      have hck := hc k hlt
      clear hc
      by_cases hz : l[k] = t
      · have HA := hide (anyI_some hlt hz)
        go_wp2
        go_ret
        exact ⟨⟨_, rfl, by rw [HA.out]; simp⟩, rfl⟩
      · have HZ := hide hz
        have hz2 : ¬ t = l[k] := fun e => hz e.symm
        go_wp2
        go_roundw
        case rel => exact ⟨k + 1, by omega, by go_num, fun j hj hjk => if e : j = k then by subst e; exact HZ.out else HN.out j hj (by omega), by trivial⟩
        case measure => simp [intOf]; omega
    · have HA := hide (anyI_none (fun j hj => HN.out j hj (by omega)))
      go_wp2
      go_ret
      exact ⟨⟨_, rfl, by rw [HA.out]; rfl⟩, rfl⟩

set_option maxHeartbeats 1000000 in
theorem containsI_any (a : Option Addr) (l : List Int) (cap B : Nat) (t : Int) (w : World) (h : Ints w B a l) (hl : l.length ≤ 1048576) :
    Calls Tryz.prog 72 #[.slice a l.length cap, .int .i64 t] w fun e w' => e = .returned (.bool (l.any (· == t))) ∧ w' = w := by
  have HQ := hide (indexI_any a l cap B t w h hl)
  clear h
  go_enter Tryz.func72, Tryz.ntmps72
  go_wp2_with fail
  refine HQ.out.mono ?_
  rintro e w1 ⟨⟨z, rfl, hz⟩, hw⟩
  obtain rfl := hw.symm
  have HZ := hide hz
  clear hz hw
  go_wp2
  go_ret
  exact ⟨by rw [← HZ.out]; rfl, rfl⟩
end Go.Proofs.YtcgljeagjchobaaGreat
namespace Go.Proofs.YtcgljeagjchobaaGreat
open Go.RowKit M

set_option maxHeartbeats 400000 in
theorem l1In_any (x a b : Int) (w : World) :
    Calls Tryz.prog 21 #[.int .i64 x, .int .i64 a, .int .i64 b] w fun e w' => e = .returned (.bool (inB x a b)) ∧ w' = w := by
  go_enter Tryz.func21, Tryz.ntmps21
  go_wp2
  all_goals
    go_ret
    refine ⟨ret_bool ?_, rfl⟩
    go_light
    unfold inB
    simp_all
    try omega

theorem wrap64_u8 (c : UInt8) : wrap64 (c.toNat : Int) = c.toNat := by
  have := c.toNat_lt
  unfold wrap64
  omega
end Go.Proofs.YtcgljeagjchobaaGreat
namespace Go.Proofs.YtcgljeagjchobaaGreat
open Go.RowKit M
set_option linter.unusedVariables false

set_option maxHeartbeats 400000 in
theorem tokenOk_any (x : Int) (w : World) :
    Calls Tryz.prog 75 #[.int .i64 x] w fun e w' => e = .returned (.bool (inB x 1 9999)) ∧ w' = w := by
  go_enter Tryz.func75, Tryz.ntmps75
  go_wp2
  all_goals
    go_ret
    refine ⟨ret_bool ?_, rfl⟩
    go_light
    unfold inB
    simp_all
    try omega
end Go.Proofs.YtcgljeagjchobaaGreat
