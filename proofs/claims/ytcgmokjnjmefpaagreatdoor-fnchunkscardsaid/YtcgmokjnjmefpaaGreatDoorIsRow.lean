/-
  Plain facts on requests that are the same, and on texts that are.
  Whether two heads are the same, as the language has it.
  Two lists of heads held against each other by the program.
  What the program's SameReq does.
  Plain facts on what stands ahead of a body: where it ends, which lines it has: no program in sight.
  Plain facts on the bytes of an answer: no program in sight.
  Plain facts: a request comes back of its bytes: no program in sight.
  A slice of integers as the row hands it in.
  Codes that are too long; what stays below what was there.
  The bytes of a draw as the row hands them in.
-/
import Derived.Test.YtcgmokjnjmefpaaGreatDoorHeads
import Derived.Test.YtcgmokjnjmefpaaGreatDoorSpecSm
import Derived.Laws.StructEq
import Derived.Test.YtcgmokjnjmefpaaGreatDoorLower
import Derived.Test.YtcgmokjnjmefpaaGreatDoorMathBack
import Derived.Test.YtcgmokjnjmefpaaGreatDoorPlain
import Derived.Test.YtcgmokjnjmefpaaGreatDoorMathReqs
import Derived.Test.YtcgmokjnjmefpaaGreatDoorMathCutB
import Derived.Test.YtcgmokjnjmefpaaGreatDoorRows
import Derived.OpenShut
import Derived.WalkKit
import Derived.WalkSpells
import Derived.WalkLawsBesides
namespace Go.Proofs.YtcgmokjnjmefpaaGreatDoor
open Go.RowKit M
set_option linter.unusedVariables false

theorem sameR_m {a b : Rq} (h : ¬ a.m = b.m) : sameR a b = false := by simp [sameR, h]
theorem sameR_p {a b : Rq} (h : ¬ a.p = b.p) : sameR a b = false := by simp [sameR, h]
theorem sameR_h {a b : Rq} (h : sameH a.hs b.hs = false) : sameR a b = false := by simp [sameR, h]
theorem sameR_b {a b : Rq} (h : ¬ a.b = b.b) : sameR a b = false := by simp [sameR, h]
theorem sameR_all {a b : Rq} (h1 : a.m = b.m) (h2 : a.p = b.p) (h3 : sameH a.hs b.hs = true) (h4 : a.b = b.b) : sameR a b = true := by simp [sameR, h1, h2, h3, h4]

theorem neStr {x y : ByteArray} (h : ¬ x = y) : (x.toList == y.toList) = false := by
  rw [beq_eq_false_iff_ne]; exact fun e => h (strInj e)
theorem eqStr {x y : ByteArray} (h : x = y) : (x.toList == y.toList) = true := by rw [h]; simp
end Go.Proofs.YtcgmokjnjmefpaaGreatDoor
namespace Go.Proofs.YtcgmokjnjmefpaaGreatDoor
open Go.RowKit M
set_option linter.unusedVariables false


theorem head_struct : Tryz.prog.underlying 92 = some (.struct (Tryz.prog.fieldsOf 92)) := by kernel_rfl
theorem head_held : Tryz.prog.stoodInHeld 92 = false := by kernel_rfl
theorem head_guard : Tryz.prog.eqGuardType Tryz.prog.depth 92 = false := by kernel_rfl

set_option maxHeartbeats 400000 in
theorem eqIn_head (x y u v : ByteArray) (w : World) : (Op.equalIn 10000 92 (.agg #[.string x, .string y]) (.agg #[.string u, .string v])).run Tryz.prog w = .ok (decide (((x, y) : Hd) = (u, v))) w := by
  have u3 := Tryz.underlying9
  rw [show (10000 : Nat) = 9999 + 1 from rfl, run_equalIn_agg w 9999 92 _ _ head_struct head_held]
  simp only [Program.fieldsOf, Tryz.underlying92]
  go_simp
  by_cases h1 : x = u
  · by_cases h2 : y = v
    · simp [h1, h2]
    · have h3 : ¬ y.toList = v.toList := fun e => h2 (strInj e)
      simp [h1, h2, h3]
  · have h3 : ¬ x.toList = u.toList := fun e => h1 (strInj e)
    simp [h1, h3]

theorem neq_head (x y u v : ByteArray) (w : World) : (binOp .neq 92 (.agg #[.string x, .string y]) (.agg #[.string u, .string v])).run Tryz.prog w = .ok (.bool (!decide (((x, y) : Hd) = (u, v)))) w := by
  rw [run_neq_struct, eqIn_head]
  rfl
end Go.Proofs.YtcgmokjnjmefpaaGreatDoor
namespace Go.Proofs.YtcgmokjnjmefpaaGreatDoor
open Go.RowKit M
set_option linter.unusedVariables false

set_option maxHeartbeats 1000000 in
theorem slicesEqualH_any (a b : Option Addr) (ss tt : List Hd) (cap cap' B C : Nat) (w : World) (h : Hds w B a ss) (h' : Hds w C b tt) (hl : ss.length ≤ maxLen) (hl' : tt.length ≤ maxLen) :
    Calls Tryz.prog 60 #[.slice a ss.length cap, .slice b tt.length cap'] w fun e w' => e = .returned (.bool (sameH ss tt)) ∧ ∀ D, Below D w w' := by
  unfold maxLen at hl hl'
  by_cases hlen : ss.length = tt.length
  · have HL : Hid (ss.length = tt.length) := hlen
    go_enter Tryz.func60, Tryz.ntmps60
    rw [← hlen]
    clear hlen
    go_wp2
    go_loopw [13] (fun i wr => ∃ k n : Nat, k ≤ ss.length ∧ i = .int .i64 k ∧ ss.take k = tt.take k ∧ wr = w.drewN n) (fun i _ => ss.length - (intOf i).toNat)
    case atStart => exact ⟨0, 0, Nat.zero_le _, rfl, rfl, rfl⟩
    case round =>
      obtain ⟨k, n, hk, rfl, ht, rfl⟩ := hrel
      have HT : Hid (ss.take k = tt.take k) := ht
      clear ht
      by_cases hlt : k < ss.length
      · have hlt' : k < tt.length := by have := HL.out; omega
        obtain ⟨b1, o1, rfl, hb1, hc1⟩ := h (by omega)
        obtain ⟨b2, o2, rfl, hb2, hc2⟩ := h' (by have := HL.out; omega)
        have hcx := (hc1 k hlt).1
        have hcx2 := (hc1 k hlt).2
        have hcy := (hc2 k hlt').1
        have hcy2 := (hc2 k hlt').2
        have hq := eqIn_head ss[k].1 ss[k].2 tt[k].1 tt[k].2
        have hg := head_guard
        clear hc1 hc2
        by_cases he : ss[k] = tt[k]
        · have hd : decide (((ss[k].1, ss[k].2) : Hd) = (tt[k].1, tt[k].2)) = true := decide_eq_true he
          rw [hd] at hq
          have HE : Hid (ss[k] = tt[k]) := he
          clear hd he
          go_wp2
          go_quiet (fail)
          go_wp2
          go_roundw
          case rel => exact ⟨k + 1, n + nq, by omega, by go_num, take_sameH k hlt hlt' HT.out HE.out, rfl⟩
          case measure => simp [intOf]; omega
        · have hd : decide (((ss[k].1, ss[k].2) : Hd) = (tt[k].1, tt[k].2)) = false := decide_eq_false he
          rw [hd] at hq
          have HE : Hid (sameH ss tt = false) := sameH_not k hlt hlt' he
          clear hd he
          go_wp2
          go_quiet (fail)
          go_wp2
          go_ret
          exact ⟨ret_bool HE.out.symm, fun D => below_drewN (below_drewN (Below.refl _ _) _) _⟩
      · go_wp2
        go_ret
        exact ⟨ret_bool (sameH_all HL.out k hlt HT.out).symm, fun D => below_drewN (Below.refl _ _) _⟩
  · have HS := sameH_len hlen
    go_enter Tryz.func60, Tryz.ntmps60
    go_wp2
    go_ret
    exact ⟨ret_bool HS.symm, fun D => Below.refl _ _⟩
end Go.Proofs.YtcgmokjnjmefpaaGreatDoor
namespace Go.Proofs.YtcgmokjnjmefpaaGreatDoor
open Go.RowKit M
set_option linter.unusedVariables false

set_option maxHeartbeats 1000000 in
theorem sameReq_any (a b : Option Addr) (r s : Rq) (cap cap' B C : Nat) (w : World) (h : Hds w B a r.hs) (h' : Hds w C b s.hs) (hB : B ≤ w.heap.size) (hC : C ≤ w.heap.size) (hl : r.hs.length ≤ maxLen) (hl' : s.hs.length ≤ maxLen) :
    Calls Tryz.prog 17 #[.agg #[.string r.m, .string r.p, .slice a r.hs.length cap, .string r.b], .agg #[.string s.m, .string s.p, .slice b s.hs.length cap', .string s.b]] w fun e w' => e = .returned (.bool (sameR r s)) ∧ Below w.heap.size w w' := by
  have HM : Hid (¬ r.m = s.m → sameR r s = false) := sameR_m
  have HP : Hid (¬ r.p = s.p → sameR r s = false) := sameR_p
  have HH : Hid (sameH r.hs s.hs = false → sameR r s = false) := sameR_h
  have HBd : Hid (¬ r.b = s.b → sameR r s = false) := sameR_b
  have HA : Hid (r.m = s.m → r.p = s.p → sameH r.hs s.hs = true → r.b = s.b → sameR r s = true) := sameR_all
  generalize sameR r s = z at *
  obtain ⟨rm, rp, hs, rb⟩ := r
  obtain ⟨sm, sp, ts, sb⟩ := s
  simp only at *
  by_cases h1 : rm = sm
  · by_cases h2 : rp = sp
    · have e1 := eqStr h1
      have e2 := eqStr h2
      have hb0 : Below w.heap.size w ((w.alloc (Obj.cells #[Value.string rm, Value.string rp, Value.slice a hs.length cap, Value.string rb] 35)).alloc (Obj.cells #[Value.string sm, Value.string sp, Value.slice b ts.length cap', Value.string sb] 35)) := ((Below.refl _ _).alloc (Nat.le_refl _) _).alloc (by simp) _
      have hE := slicesEqualH_any a b hs ts cap cap' B C _ (h.below hb0 hB) (h'.below hb0 hC) hl hl'
      have HA' : Hid (sameH hs ts = true → rb = sb → z = true) := fun h3 h4 => HA.out h1 h2 h3 h4
      clear h1 h2 HA
      cases h3 : sameH hs ts
      · have hz := HH.out h3
        rw [h3] at hE
        subst hz
        clear h3
        go_enter Tryz.func17, Tryz.ntmps17
        go_wp2_with fail
        refine hE.mono ?_
        rintro e w1 ⟨rfl, hb1'⟩
        have hb1 := hb1' ((w.alloc (Obj.cells #[Value.string rm, Value.string rp, Value.slice a hs.length cap, Value.string rb] 35)).alloc (Obj.cells #[Value.string sm, Value.string sp, Value.slice b ts.length cap', Value.string sb] 35)).heap.size
        have c1 := hb0.trans (hb1.mono hb0.size)
        go_wp2
        go_ret
        exact ⟨rfl, c1⟩
      · rw [h3] at hE
        by_cases h4 : rb = sb
        · have e4 := eqStr h4
          have hz := HA'.out h3 h4
          subst hz
          clear h3 h4
          go_enter Tryz.func17, Tryz.ntmps17
          go_wp2_with fail
          refine hE.mono ?_
          rintro e w1 ⟨rfl, hb1'⟩
          have hb1 := hb1' ((w.alloc (Obj.cells #[Value.string rm, Value.string rp, Value.slice a hs.length cap, Value.string rb] 35)).alloc (Obj.cells #[Value.string sm, Value.string sp, Value.slice b ts.length cap', Value.string sb] 35)).heap.size
          have c1 := hb0.trans (hb1.mono hb0.size)
          obtain ⟨hc, hf⟩ := bcell hb1
          go_wp2
          go_ret
          exact ⟨rfl, c1⟩
        · have e4 := neStr h4
          have hz := HBd.out h4
          subst hz
          clear h3 h4
          go_enter Tryz.func17, Tryz.ntmps17
          go_wp2_with fail
          refine hE.mono ?_
          rintro e w1 ⟨rfl, hb1'⟩
          have hb1 := hb1' ((w.alloc (Obj.cells #[Value.string rm, Value.string rp, Value.slice a hs.length cap, Value.string rb] 35)).alloc (Obj.cells #[Value.string sm, Value.string sp, Value.slice b ts.length cap', Value.string sb] 35)).heap.size
          have c1 := hb0.trans (hb1.mono hb0.size)
          obtain ⟨hc, hf⟩ := bcell hb1
          go_wp2
          go_ret
          exact ⟨rfl, c1⟩
    · have e1 := eqStr h1
      have e2 := neStr h2
      have hz := HP.out h2
      subst hz
      clear h1 h2
      go_enter Tryz.func17, Tryz.ntmps17
      go_wp2
      go_ret
      exact ⟨rfl, ((Below.refl _ _).alloc (Nat.le_refl _) _).alloc (by simp) _⟩
  · have e1 := neStr h1
    have hz := HM.out h1
    subst hz
    clear h1
    go_enter Tryz.func17, Tryz.ntmps17
    go_wp2
    go_ret
    exact ⟨rfl, ((Below.refl _ _).alloc (Nat.le_refl _) _).alloc (by simp) _⟩
end Go.Proofs.YtcgmokjnjmefpaaGreatDoor
namespace Go.Proofs.YtcgmokjnjmefpaaGreatDoor.M

theorem idx_skip {x : UInt8} {r p : List UInt8} {n : Nat} (h : p.isPrefixOf (x :: r) = false) (hr : Lib.index r p = n) : Lib.index (x :: r) p = ((n + 1 : Nat) : Int) := by
  unfold Lib.index
  rw [h, hr]
  have : ((n : Int) == -1) = false := by rw [beq_eq_false_iff_ne]; omega
  simp [this]
theorem idx_hit {l p : List UInt8} (hp : p ≠ []) (h : p.isPrefixOf l = true) : Lib.index l p = 0 := by
  cases l with
  | nil => cases p with
    | nil => exact absurd rfl hp
    | cons _ _ => simp [List.isPrefixOf] at h
  | cons x r => unfold Lib.index; rw [h]; rfl
theorem pre_no {c x : UInt8} {p r : List UInt8} (h : x ≠ c) : (c :: p).isPrefixOf (x :: r) = false := by
  rw [Bool.eq_false_iff]
  intro e
  simp [List.isPrefixOf] at e
  exact h e.1.symm
theorem idx_word {c : UInt8} {p r : List UInt8} {n : Nat} (hr : Lib.index r (c :: p) = n) : ∀ a : List UInt8, c ∉ a → Lib.index (a ++ r) (c :: p) = ((a.length + n : Nat) : Int) := by
  intro a
  induction a with
  | nil => intro _; rw [List.nil_append, hr]; simp
  | cons x a ih =>
    intro h
    have hx : x ≠ c := fun e => h (by rw [e]; simp)
    have := idx_skip (pre_no (p := p) (r := a ++ r) hx) (ih (fun e => h (by simp [e])))
    rw [List.cons_append, this]
    simp
    omega
/-- A word without the stop's first byte is cut off. -/
theorem cutS_word {c : UInt8} {p a b : List UInt8} (h : c ∉ a) : cutS (c :: p) (a ++ (c :: p ++ b)) = some (a, b) := by
  have h0 : Lib.index (c :: p ++ b) (c :: p) = ((0 : Nat) : Int) := idx_hit (by simp) (by rw [List.isPrefixOf_iff_prefix]; exact List.prefix_append _ _)
  have h1 := idx_word h0 a h
  rw [Nat.add_zero] at h1
  unfold cutS
  rw [h1, if_pos (by omega), Int.toNat_natCast, List.take_left']
  · rw [← List.append_assoc, List.drop_left' (by simp)]
  · rfl

/-- The line of a head. -/
def hdLine (h : Hd) : List UInt8 := h.1.data.toList ++ ([58, 32] ++ h.2.data.toList)
theorem hdTxt_line (h : Hd) : hdTxt h = hdLine h ++ [13, 10] := by simp [hdTxt, hdLine, crlf]
theorem hdsTxt_flat (hs : List Hd) : hdsTxt hs = flatE (hs.map hdLine) := by
  unfold hdsTxt flatE
  rw [List.flatMap_map]
  congr 1
  funext h
  exact hdTxt_line h
theorem flatE_cons (x : List UInt8) (L : List (List UInt8)) : flatE (x :: L) = x ++ (13 :: 10 :: flatE L) := by simp [flatE]

def lineOk (x : List UInt8) : Prop := x ≠ [] ∧ 13 ∉ x
theorem two4_no {x : UInt8} {T : List UInt8} (h : x ≠ 13) : two4.isPrefixOf (13 :: 10 :: x :: T) = false := by
  rw [Bool.eq_false_iff]
  intro e
  simp [two4, List.isPrefixOf] at e
  exact h e.1.symm
/-- Behind lines that are not empty: there the first two line's ends are. -/
theorem idx_lines (T : List UInt8) : ∀ (L : List (List UInt8)), L ≠ [] → (∀ x ∈ L, lineOk x) → ∃ n : Nat, Lib.index (flatE L ++ (13 :: 10 :: T)) two4 = n ∧ n + 2 = (flatE L).length := by
  intro L
  induction L with
  | nil => intro h; exact absurd rfl h
  | cons x L ih =>
    intro _ hL
    have hx := hL x (by simp)
    by_cases hn : L = []
    · subst hn
      refine ⟨x.length, ?_, by simp [flatE]⟩
      have h0 : Lib.index (13 :: 10 :: 13 :: 10 :: T) two4 = ((0 : Nat) : Int) := idx_hit (by simp [two4]) (by simp [two4, List.isPrefixOf])
      have := idx_word (c := 13) (p := [10, 13, 10]) h0 x hx.2
      rw [Nat.add_zero] at this
      rw [← this]
      simp [flatE, two4]
    · obtain ⟨n, h1, h2⟩ := ih hn (fun y hy => hL y (by simp [hy]))
      obtain ⟨y, M, rfl⟩ : ∃ y M, L = y :: M := by
        cases L with
        | nil => exact absurd rfl hn
        | cons y M => exact ⟨y, M, rfl⟩
      obtain ⟨hy1, hy2⟩ := hL y (by simp)
      obtain ⟨c, y', rfl⟩ : ∃ c y', y = c :: y' := by
        cases y with
        | nil => exact absurd rfl hy1
        | cons c y' => exact ⟨c, y', rfl⟩
      have hc : c ≠ 13 := fun e => hy2 (by rw [e]; simp)
      obtain ⟨T', hT'⟩ : ∃ T', flatE ((c :: y') :: M) ++ (13 :: 10 :: T) = c :: T' := ⟨_, by rw [flatE_cons, List.cons_append, List.cons_append]⟩
      rw [hT'] at h1
      have i1 : Lib.index (10 :: c :: T') two4 = ((n + 1 : Nat) : Int) := idx_skip (pre_no (by decide)) h1
      have i2 : Lib.index (13 :: 10 :: c :: T') two4 = ((n + 1 + 1 : Nat) : Int) := idx_skip (two4_no hc) i1
      have i3 := idx_word (c := 13) (p := [10, 13, 10]) i2 x hx.2
      refine ⟨x.length + (n + 1 + 1), ?_, ?_⟩
      · rw [← i3, flatE_cons]
        simp only [List.append_assoc, List.cons_append, hT']
        rfl
      · rw [flatE_cons]
        simp only [List.length_append, List.length_cons]
        omega
theorem lines_word {x : List UInt8} (h : 13 ∉ x) : linesL x = [x] := by
  induction x with
  | nil => rfl
  | cons c r ih =>
    cases r with
    | nil => rfl
    | cons d r =>
      rw [linesL, if_neg (fun e => h (by rw [e.1]; simp)), ih (fun e => h (by simp [e]))]
theorem lines_app {x : List UInt8} (T : List UInt8) (h : 13 ∉ x) : linesL (x ++ 13 :: 10 :: T) = x :: linesL T := by
  induction x with
  | nil => rw [List.nil_append, linesL, if_pos ⟨rfl, rfl⟩]
  | cons c r ih =>
    have hr := ih (fun e => h (by simp [e]))
    have hc : ¬ c = 13 := fun e => h (by rw [e]; simp)
    cases r with
    | nil =>
      rw [List.nil_append] at hr
      rw [List.cons_append, List.nil_append, linesL, if_neg (fun e => hc e.1), hr]
    | cons d r =>
      rw [List.cons_append] at hr
      rw [List.cons_append, List.cons_append, linesL, if_neg (fun e => hc e.1), hr]
/-- The lines, without the last one's end. -/
theorem lines_flat : ∀ (L : List (List UInt8)) (t : List UInt8), L ≠ [] → (∀ x ∈ L, 13 ∉ x) → t ++ [13, 10] = flatE L → linesL t = L := by
  intro L
  induction L with
  | nil => intro t h; exact absurd rfl h
  | cons x L ih =>
    intro t _ hL ht
    by_cases hn : L = []
    · subst hn
      have : t = x := by
        rw [flatE_cons] at ht
        exact List.append_cancel_right (show t ++ [13, 10] = x ++ [13, 10] from ht)
      rw [this]
      exact lines_word (hL x (by simp))
    · obtain ⟨t', ht'⟩ : ∃ t', flatE L = t' ++ [13, 10] := by
        refine ⟨(flatE L).dropLast.dropLast, ?_⟩
        obtain ⟨M, y, rfl⟩ : ∃ M y, L = M ++ [y] := ⟨L.dropLast, L.getLast hn, (List.dropLast_concat_getLast hn).symm⟩
        have : flatE (M ++ [y]) = (flatE M ++ y ++ [13]) ++ [10] := by simp [flatE]
        rw [this, List.dropLast_concat, List.dropLast_concat]
        simp
      rw [flatE_cons, ht'] at ht
      have : t = x ++ 13 :: 10 :: t' := by
        apply List.append_cancel_right (bs := [13, 10])
        rw [ht]
        simp
      rw [this, lines_app _ (hL x (by simp)), ih t' hn (fun y hy => hL y (by simp [hy])) ht'.symm]

theorem bytesOf_self (s : ByteArray) : bytesOf s.data.toList = s := by
  apply ByteArray.ext; simp [bytesOf]
theorem sm_all {l : List UInt8} (h : smB l = true) : allB l [2, 4, 7] = true ∧ l ≠ [] := by
  cases l with
  | nil => cases h
  | cons c r =>
    simp only [smB, Bool.and_eq_true] at h
    exact ⟨h.2, by simp⟩
theorem hd_facts {h : Hd} (hb : hdB h = true) : smB h.1.data.toList = true ∧ 58 ∉ h.1.data.toList ∧ 13 ∉ h.1.data.toList ∧ h.1.data.toList ≠ [] ∧ 13 ∉ h.2.data.toList ∧ trimL h.2.data.toList = h.2.data.toList := by
  simp only [hdB, valB, Bool.and_eq_true, decide_eq_true_eq] at hb
  obtain ⟨h1, h2, h3, h4⟩ := hb
  obtain ⟨h5, h6⟩ := sm_all h1
  exact ⟨h1, allB_no 58 h5 (by decide), allB_no 13 h5 (by decide), h6, allB_no 13 h3 (by decide), h4⟩
theorem hdLine_ok {h : Hd} (hb : hdB h = true) : lineOk (hdLine h) := by
  obtain ⟨_, _, h3, h4, h5, _⟩ := hd_facts hb
  refine ⟨fun e => ?_, fun e => ?_⟩
  · unfold hdLine at e
    exact h4 (List.append_eq_nil_iff.1 e).1
  · unfold hdLine at e
    simp at e
    rcases e with e | e
    · exact h3 (by simpa using e)
    · exact h5 (by simpa using e)
end Go.Proofs.YtcgmokjnjmefpaaGreatDoor.M
namespace Go.Proofs.YtcgmokjnjmefpaaGreatDoor.M

/-- An answer: its code, its heads, its body. -/
structure Rs where
  c : Int
  hs : List Hd
  b : ByteArray
def codeB (c : Int) : Bool := inB c 100 599
def respB (r : Rs) : Bool := codeB r.c && (hdsB r.hs && decide (r.b.size ≤ 400))
def zeroA : Rs := ⟨0, [], ⟨#[]⟩⟩
def topA (c : Int) : List UInt8 := proto ++ (32 :: Lib.decDigits c.toNat)
def lenH (n : Nat) : Hd := (lenName, bytesOf (Lib.decDigits n))
def frontA (r : Rs) : List UInt8 := linesTxt (topA r.c) r.hs [lenH r.b.size]
/-- The bytes of an answer. -/
def putA (r : Rs) : List UInt8 := if respB r = true then frontA r ++ r.b.data.toList else []
def sameA (a b : Rs) : Bool := decide (a.c = b.c) && (sameH a.hs b.hs && decide (a.b = b.b))

theorem dec3 {c : Int} (h : codeB c = true) : c = (c.toNat : Int) ∧ 100 ≤ c.toNat ∧ c.toNat ≤ 599 := by
  simp [codeB, inB] at h
  omega
theorem dec_no13 (n : Nat) : 13 ∉ Lib.decDigits n ∧ 58 ∉ Lib.decDigits n ∧ 32 ∉ Lib.decDigits n ∧ Lib.decDigits n ≠ [] := by
  obtain ⟨_, h2, h3, _⟩ := dec_back n n (Nat.le_refl _)
  refine ⟨allB_no 13 h2 (by decide), allB_no 58 h2 (by decide), allB_no 32 h2 (by decide), fun e => ?_⟩
  rw [e] at h3; simp at h3
theorem dec_three {n : Nat} (h1 : 100 ≤ n) (h2 : n ≤ 599) : (Lib.decDigits n).length = 3 := by
  rw [dec_great n (by omega), dec_great (n / 10) (by omega), dec_small (n / 10 / 10) (by omega)]
  simp
theorem lenH_ok (n : Nat) : lineOk (hdLine (lenH n)) := by
  refine ⟨?_, ?_⟩
  · unfold hdLine lenH lenName; simp
  · have := (dec_no13 n).1
    unfold hdLine lenH lenName bytesOf
    simpa using this
theorem free_hd {h : Hd} (hb : hdFree h = true) : hdB h = true ∧ ¬ h.1 = lenName ∧ ¬ h.1 = codName := by
  simpa [hdFree] using hb
theorem resp_hds {r : Rs} (h : respB r = true) : codeB r.c = true ∧ (∀ x ∈ r.hs, hdFree x = true) ∧ r.hs.length ≤ 8 ∧ r.b.size ≤ 400 := by
  simp only [respB, hdsB, Bool.and_eq_true, decide_eq_true_eq, List.all_eq_true] at h
  exact ⟨h.1, h.2.1.1, h.2.1.2, h.2.2⟩
/-- The lines of an answer. -/
def linesA (r : Rs) : List (List UInt8) := topA r.c :: (r.hs.map hdLine ++ [hdLine (lenH r.b.size)])
theorem front_flat (r : Rs) : frontA r = flatE (linesA r) ++ [13, 10] := by
  unfold frontA linesTxt linesA
  rw [flatE_cons, hdsTxt_flat, hdsTxt_flat]
  simp [flatE, crlf]
theorem topA_ok (c : Int) : lineOk (topA c) := by
  refine ⟨by simp [topA, proto], ?_⟩
  have := (dec_no13 c.toNat).1
  simpa [topA, proto] using this
theorem linesA_ok {r : Rs} (h : respB r = true) : ∀ x ∈ linesA r, lineOk x := by
  obtain ⟨_, h2, _⟩ := resp_hds h
  intro x hx
  rcases List.mem_cons.1 hx with rfl | hx
  · exact topA_ok _
  · rcases List.mem_append.1 hx with hx | hx
    · obtain ⟨y, hy, rfl⟩ := List.mem_map.1 hx
      exact hdLine_ok (free_hd (h2 y hy)).1
    · obtain rfl := List.mem_singleton.1 hx
      exact lenH_ok _
theorem putA_of {r : Rs} (h : respB r = true) : putA r = frontA r ++ r.b.data.toList := if_pos h
theorem putA_no {r : Rs} (h : respB r = false) : putA r = [] := if_neg (by rw [h]; decide)
theorem putA_ne {r : Rs} (h : respB r = true) : putA r ≠ [] := by
  rw [putA_of h]
  intro e
  have := (List.append_eq_nil_iff.1 e).1
  simp [frontA, linesTxt, topA, proto] at this
/-- An answer stands ahead of these bytes. -/
def RespAt (r : Rs) (l : List UInt8) : Prop := respB r = true ∧ ∃ q, l = putA r ++ q
theorem RespAt.flat {r : Rs} {l : List UInt8} (h : RespAt r l) : ∃ q, l = flatE (linesA r) ++ (13 :: 10 :: (r.b.data.toList ++ q)) := by
  obtain ⟨h1, q, rfl⟩ := h
  exact ⟨q, by rw [putA_of h1, front_flat]; simp⟩
/-- Where the first two line's ends are. -/
theorem RespAt.idx {r : Rs} {l : List UInt8} (h : RespAt r l) : Lib.index l two4 + 4 = ((frontA r).length : Int) := by
  obtain ⟨q, e⟩ := h.flat
  obtain ⟨n, h1, h2⟩ := idx_lines (r.b.data.toList ++ q) (linesA r) (by simp [linesA]) (linesA_ok h.1)
  rw [e, h1, front_flat]
  simp
  omega
theorem flatE_end {L : List (List UInt8)} (h : L ≠ []) : ∃ t, flatE L = t ++ [13, 10] := by
  obtain ⟨M, y, rfl⟩ : ∃ M y, L = M ++ [y] := ⟨L.dropLast, L.getLast h, (List.dropLast_concat_getLast h).symm⟩
  exact ⟨flatE M ++ y, by simp [flatE]⟩
theorem RespAt.lines {r : Rs} {l : List UInt8} (h : RespAt r l) : linesL (l.take ((frontA r).length - 4)) = linesA r := by
  obtain ⟨q, e⟩ := h.flat
  have hne : linesA r ≠ [] := by simp [linesA]
  obtain ⟨t, ht⟩ := flatE_end hne
  have : l.take ((frontA r).length - 4) = t := by
    rw [front_flat, e, ht]
    simp
  rw [this]
  exact lines_flat _ t hne (fun x hx => (linesA_ok h.1 x hx).2) ht.symm
theorem RespAt.body {r : Rs} {l : List UInt8} (h : RespAt r l) : (frontA r).length + r.b.size ≤ l.length ∧ (l.drop (frontA r).length).take r.b.size = r.b.data.toList ∧ l.take ((frontA r).length + r.b.size) = putA r := by
  obtain ⟨h1, q, rfl⟩ := h
  have e : r.b.data.toList.length = r.b.size := Array.length_toList
  rw [putA_of h1]
  refine ⟨by simp [e], ?_, ?_⟩
  · rw [List.append_assoc, List.drop_left' rfl, List.take_left' e]
  · rw [List.take_left' (by simp [e])]
theorem topA_len {c : Int} (h : codeB c = true) : (topA c).length = 12 ∧ (topA c).take 9 = proto ++ [32] ∧ (topA c).drop 9 = Lib.decDigits c.toNat := by
  obtain ⟨_, h1, h2⟩ := dec3 h
  have := dec_three h1 h2
  refine ⟨by simp [topA, proto, this], by simp [topA, proto], by simp [topA, proto]⟩
theorem parse_code {c : Int} (h : codeB c = true) (m : Int) (hm : 599 ≤ m) : parseNum (Lib.decDigits c.toNat) m = (c, true) := by
  obtain ⟨h0, h1, h2⟩ := dec3 h
  rw [parse_dec _ _ (by omega) (by omega), ← h0]
theorem parse_len {n : Nat} (h : n ≤ 400) : parseNum (Lib.decDigits n) 400 = ((n : Int), true) := parse_dec _ _ (by omega) (by omega)
/-- A head's line, cut at its first ': '. -/
theorem cut_line {h : Hd} (hc : 58 ∉ h.1.data.toList) : cutS [58, 32] (hdLine h) = some (h.1.data.toList, h.2.data.toList) := by
  exact cutS_word (c := 58) (p := [32]) hc
theorem lenH_no {n : Nat} : 58 ∉ (lenH n).1.data.toList := by show 58 ∉ lenName.data.toList; unfold lenName; decide
theorem cut_hdLine {h k : Hd} (hc : 58 ∉ h.1.data.toList) (kc : 58 ∉ k.1.data.toList) (e : hdLine h = hdLine k) : h = k := by
  have h1 := cut_line hc
  have h2 := cut_line kc
  rw [e, h2] at h1
  have h3 := Option.some.inj h1
  have a := congrArg Prod.fst h3
  have b := congrArg Prod.snd h3
  simp only at a b
  refine Prod.ext ?_ ?_
  · rw [← bytesOf_self h.1, ← bytesOf_self k.1, a]
  · rw [← bytesOf_self h.2, ← bytesOf_self k.2, b]
theorem map_hdLine : ∀ {hs ks : List Hd}, (∀ x ∈ hs, 58 ∉ x.1.data.toList) → (∀ x ∈ ks, 58 ∉ x.1.data.toList) → hs.map hdLine = ks.map hdLine → hs = ks := by
  intro hs
  induction hs with
  | nil => intro ks _ _ e; cases ks with
    | nil => rfl
    | cons _ _ => cases e
  | cons x hs ih =>
    intro ks h1 h2 e
    cases ks with
    | nil => cases e
    | cons y ks =>
      simp only [List.map_cons, List.cons.injEq] at e
      rw [cut_hdLine (h1 x (by simp)) (h2 y (by simp)) e.1, ih (fun z hz => h1 z (by simp [hz])) (fun z hz => h2 z (by simp [hz])) e.2]
/-- There is one answer at most ahead of bytes. -/
theorem RespAt.one {r s : Rs} {l : List UInt8} (h : RespAt r l) (k : RespAt s l) : r = s := by
  have h1 := h.idx
  have k1 := k.idx
  have hlen : (frontA r).length = (frontA s).length := by omega
  have h2 := h.lines
  have k2 := k.lines
  rw [hlen, k2] at h2
  unfold linesA at h2
  obtain ⟨c1, g1, _, z1⟩ := resp_hds h.1
  obtain ⟨c2, g2, _, z2⟩ := resp_hds k.1
  simp only [List.cons.injEq] at h2
  obtain ⟨e1, e2⟩ := h2
  have e3 : (s.hs ++ [lenH s.b.size]).map hdLine = (r.hs ++ [lenH r.b.size]).map hdLine := by simpa using e2
  have n1 : ∀ x ∈ s.hs ++ [lenH s.b.size], 58 ∉ x.1.data.toList := fun x hx => by
    rcases List.mem_append.1 hx with hx | hx
    · exact (hd_facts (free_hd (g2 x hx)).1).2.1
    · obtain rfl := List.mem_singleton.1 hx; exact lenH_no
  have n2 : ∀ x ∈ r.hs ++ [lenH r.b.size], 58 ∉ x.1.data.toList := fun x hx => by
    rcases List.mem_append.1 hx with hx | hx
    · exact (hd_facts (free_hd (g1 x hx)).1).2.1
    · obtain rfl := List.mem_singleton.1 hx; exact lenH_no
  have e4 := map_hdLine n1 n2 e3
  have e5 := List.append_inj' e4 rfl
  have e6 : lenH s.b.size = lenH r.b.size := by simpa using e5.2
  have e7 : Lib.decDigits s.b.size = Lib.decDigits r.b.size := by
    have := congrArg (fun x : Hd => x.2.data.toList) e6
    simpa [lenH, bytesOf] using this
  have e8 : r.b.size = s.b.size := by
    have p1 := parse_len z1
    have p2 := parse_len z2
    rw [e7, p1] at p2
    have := congrArg Prod.fst p2
    simp only at this
    omega
  have e9 : r.c = s.c := by
    have p1 := parse_code c1 599 (by omega)
    have p2 := parse_code c2 599 (by omega)
    have t1 := (topA_len c1).2.2
    have t2 := (topA_len c2).2.2
    rw [← e1, t2] at t1
    rw [← t1, p2] at p1
    exact (congrArg Prod.fst p1).symm
  have e10 : r.b = s.b := by
    have b1 := h.body.2.1
    have b2 := k.body.2.1
    rw [hlen, e8, b2] at b1
    rw [← bytesOf_self r.b, ← bytesOf_self s.b, b1]
  cases r
  cases s
  simp only at e9 e10 e5
  rw [e9, e10, e5.1]
open Classical in
/-- What GetResp answers. -/
noncomputable def getA (l : List UInt8) : Rs × Nat × Bool := if h : ∃ r, RespAt r l then (h.choose, (putA h.choose).length, true) else (zeroA, 0, false)
theorem getA_yes {r : Rs} {l : List UInt8} (h : RespAt r l) : getA l = (r, (putA r).length, true) := by
  have hx : ∃ r, RespAt r l := ⟨r, h⟩
  unfold getA
  rw [dif_pos hx, hx.choose_spec.one h]
theorem getA_no {l : List UInt8} (h : ∀ r, ¬ RespAt r l) : getA l = (zeroA, 0, false) := by
  unfold getA
  rw [dif_neg (fun ⟨r, hr⟩ => h r hr)]
theorem respAt_pre {r : Rs} {l : List UInt8} (h : respB r = true) (hp : (putA r).isPrefixOf l = true) : RespAt r l := by
  rw [List.isPrefixOf_iff_prefix] at hp
  obtain ⟨q, e⟩ := hp
  exact ⟨h, q, e.symm⟩
/-- What is left where k heads are read. -/
def leftA (r : Rs) (k : Nat) (q : List UInt8) : List UInt8 := hdsTxt (r.hs.drop k) ++ (hdTxt (lenH r.b.size) ++ (crlf ++ (r.b.data.toList ++ q)))
theorem RespAt.cut0 {r : Rs} {l : List UInt8} (h : RespAt r l) : ∃ q, cutS [32] l = some (proto, Lib.decDigits r.c.toNat ++ (crlf ++ leftA r 0 q)) ∧ cutS crlf (Lib.decDigits r.c.toNat ++ (crlf ++ leftA r 0 q)) = some (Lib.decDigits r.c.toNat, leftA r 0 q) := by
  obtain ⟨h1, q, rfl⟩ := h
  refine ⟨q, ?_, cutS_word (c := 13) (p := [10]) (dec_no13 _).1⟩
  have := cutS_word (c := 32) (p := []) (a := proto) (b := Lib.decDigits r.c.toNat ++ (crlf ++ leftA r 0 q)) (by decide)
  rw [← this, putA_of h1]
  simp [frontA, linesTxt, topA, leftA, hdsTxt]
theorem leftA_cut {r : Rs} (h : respB r = true) (k : Nat) (hk : k < r.hs.length) (q : List UInt8) : cutS [58, 32] (leftA r k q) = some ((r.hs[k]).1.data.toList, (r.hs[k]).2.data.toList ++ (crlf ++ leftA r (k + 1) q)) ∧ cutS crlf ((r.hs[k]).2.data.toList ++ (crlf ++ leftA r (k + 1) q)) = some ((r.hs[k]).2.data.toList, leftA r (k + 1) q) ∧ ¬ (r.hs[k]).1 = lenName := by
  obtain ⟨_, g, _⟩ := resp_hds h
  obtain ⟨f1, f2, _⟩ := free_hd (g _ (List.getElem_mem hk))
  obtain ⟨_, n1, _, _, n2, _⟩ := hd_facts f1
  refine ⟨?_, cutS_word (c := 13) (p := [10]) n2, f2⟩
  have := cutS_word (c := 58) (p := [32]) (a := (r.hs[k]).1.data.toList) (b := (r.hs[k]).2.data.toList ++ (crlf ++ leftA r (k + 1) q)) n1
  rw [← this]
  unfold leftA
  have e : hdsTxt (r.hs.drop k) = hdTxt r.hs[k] ++ hdsTxt (r.hs.drop (k + 1)) := by
    unfold hdsTxt
    rw [List.drop_eq_getElem_cons hk, List.flatMap_cons]
  rw [e]
  simp only [hdTxt, List.append_assoc]
theorem leftA_last (r : Rs) (q : List UInt8) : cutS [58, 32] (leftA r r.hs.length q) = some (lenName.data.toList, Lib.decDigits r.b.size ++ (crlf ++ (crlf ++ (r.b.data.toList ++ q)))) ∧ cutS crlf (Lib.decDigits r.b.size ++ (crlf ++ (crlf ++ (r.b.data.toList ++ q)))) = some (Lib.decDigits r.b.size, crlf ++ (r.b.data.toList ++ q)) := by
  refine ⟨?_, cutS_word (c := 13) (p := [10]) (dec_no13 _).1⟩
  have := cutS_word (c := 58) (p := [32]) (a := lenName.data.toList) (b := Lib.decDigits r.b.size ++ (crlf ++ (crlf ++ (r.b.data.toList ++ q)))) (by decide)
  rw [← this]
  unfold leftA
  rw [List.drop_of_length_le (Nat.le_refl _)]
  simp [hdsTxt, hdTxt, lenH, bytesOf]
end Go.Proofs.YtcgmokjnjmefpaaGreatDoor.M
namespace Go.Proofs.YtcgmokjnjmefpaaGreatDoor.M

theorem low_kind : ∀ n : Fin 256, anyB ((UInt8.ofNat n.val).toNat : Int) [2, 4, 7] = true → lowB (UInt8.ofNat n.val) = UInt8.ofNat n.val := by decide +kernel
theorem low_sm {l : List UInt8} (h : allB l [2, 4, 7] = true) : lowL l = l := by
  unfold lowL
  rw [show l.map lowB = l.map id from List.map_congr_left fun c hc => ?_, List.map_id]
  have h1 : anyB (c.toNat : Int) [2, 4, 7] = true := by
    have := List.all_eq_true.1 h c hc
    simpa using this
  have h2 := low_kind ⟨c.toNat, c.toNat_lt⟩
  simp only [UInt8.ofNat_toNat] at h2
  exact h2 h1
theorem headS_line {h : Hd} (hb : hdB h = true) : headS (hdLine h) = some h := by
  obtain ⟨h1, h2, _, _, _, h6⟩ := hd_facts hb
  have hc : cut1 58 (hdLine h) = some (h.1.data.toList, 32 :: h.2.data.toList) := cut1_some.2 ⟨by simp [hdLine], h2⟩
  have hm : mkH h.1.data.toList (32 :: h.2.data.toList) = h := by
    unfold mkH
    rw [low_sm (sm_all h1).1, trimL_front 32 _ (by decide), h6]
    exact Prod.ext (bytesOf_self _) (bytesOf_self _)
  unfold headS
  rw [hc]
  simp only
  rw [hm, if_pos hb]
theorem headsS_lines : ∀ hs : List Hd, (∀ x ∈ hs, hdB x = true) → headsS (hs.map hdLine) = some hs := by
  intro hs
  induction hs with
  | nil => intro _; rfl
  | cons x hs ih =>
    intro h
    rw [List.map_cons, headsS, headS_line (h x (by simp))]
    simp only
    rw [ih (fun y hy => h y (by simp [hy]))]
    rfl
def topR (r : Rq) : List UInt8 := r.m.data.toList ++ (32 :: (r.p.data.toList ++ (32 :: proto)))
def linesR (r : Rq) (ts : List Hd) : List (List UInt8) := topR r :: (r.hs ++ ts).map hdLine
theorem frontL_flat (r : Rq) (ts : List Hd) : frontL r (hdsTxt ts) = flatE (linesR r ts) ++ [13, 10] := by
  unfold frontL linesR
  rw [flatE_cons, hdsTxt_flat, hdsTxt_flat]
  simp [flatE, crlf, topTxt, topR]
theorem req_parts {r : Rq} (h : reqB r = true) : methB r.m = true ∧ targB r.p = true ∧ (∀ x ∈ r.hs, hdFree x = true) ∧ r.hs.length ≤ 8 ∧ r.b.size ≤ 200 := by
  simp only [reqB, hdsB, Bool.and_eq_true, decide_eq_true_eq, List.all_eq_true] at h
  exact ⟨h.1, h.2.1, h.2.2.1.1, h.2.2.1.2, h.2.2.2⟩
theorem linesR_ok {r : Rq} {ts : List Hd} (h : reqB r = true) (ht : ∀ x ∈ ts, hdB x = true) : ∀ x ∈ linesR r ts, lineOk x := by
  obtain ⟨h1, h2, h3, _⟩ := req_parts h
  rw [← bytesOf_self r.m] at h1
  rw [← bytesOf_self r.p] at h2
  obtain ⟨a1, _, a3⟩ := meth_no h1
  obtain ⟨b1, _, _⟩ := targ_no h2
  intro x hx
  rcases List.mem_cons.1 hx with rfl | hx
  · refine ⟨fun e => a3 (List.append_eq_nil_iff.1 e).1, fun e => ?_⟩
    rcases List.mem_append.1 e with e | e
    · exact a1 e
    · rcases List.mem_cons.1 e with e | e
      · cases e
      · rcases List.mem_append.1 e with e | e
        · exact b1 e
        · revert e; decide
  · obtain ⟨y, hy, rfl⟩ := List.mem_map.1 hx
    rcases List.mem_append.1 hy with hy | hy
    · exact hdLine_ok (free_hd (h3 y hy)).1
    · exact hdLine_ok (ht y hy)
theorem readI_lines {r : Rq} {ts : List Hd} (h : reqB r = true) (ht : ∀ x ∈ ts, hdB x = true) : readI (flatE (linesR r ts)) = some (r.m, r.p, r.hs ++ ts) := by
  obtain ⟨h1, h2, h3, _⟩ := req_parts h
  have h1' := h1
  have h2' := h2
  rw [← bytesOf_self r.m] at h1'
  rw [← bytesOf_self r.p] at h2'
  obtain ⟨_, a2, _⟩ := meth_no h1'
  obtain ⟨_, b2, _⟩ := targ_no h2'
  have hall : ∀ x ∈ r.hs ++ ts, hdB x = true := fun x hx => by
    rcases List.mem_append.1 hx with hx | hx
    · exact (free_hd (h3 x hx)).1
    · exact ht x hx
  have hno : ∀ l ∈ (r.hs ++ ts).map hdLine, noEnd l := fun l hl => noEnd_of (linesR_ok h ht l (List.mem_cons_of_mem _ hl)).2
  unfold linesR
  rw [flatE_cons]
  have c1 : cut1 32 (topR r ++ 13 :: 10 :: flatE ((r.hs ++ ts).map hdLine)) = some (r.m.data.toList, r.p.data.toList ++ 32 :: (proto ++ 13 :: 10 :: flatE ((r.hs ++ ts).map hdLine))) := cut1_some.2 ⟨by simp [topR], a2⟩
  have c2 : cut1 32 (r.p.data.toList ++ 32 :: (proto ++ 13 :: 10 :: flatE ((r.hs ++ ts).map hdLine))) = some (r.p.data.toList, proto ++ 13 :: 10 :: flatE ((r.hs ++ ts).map hdLine)) := cut1_some.2 ⟨rfl, b2⟩
  have c3 : cut2 (proto ++ 13 :: 10 :: flatE ((r.hs ++ ts).map hdLine)) = some (proto, flatE ((r.hs ++ ts).map hdLine)) := cut2_app _ (noEnd_of (by decide))
  unfold readI
  rw [c1]
  simp only
  rw [if_pos h1', c2]
  simp only
  rw [if_pos h2', c3]
  simp only
  rw [if_pos trivial, headsI_lines _ _ hno (Nat.lt_succ_self _), headsS_lines _ hall]
  simp [bytesOf_self]
theorem front_end {r : Rq} {ts : List Hd} (h : reqB r = true) (ht : ∀ x ∈ ts, hdB x = true) (h4 : (frontL r (hdsTxt ts)).length ≤ 400) (q : List UInt8) : heL (frontL r (hdsTxt ts) ++ q) = ((frontL r (hdsTxt ts)).length : Int) := by
  obtain ⟨n, h1, h2⟩ := idx_lines q (linesR r ts) (by simp [linesR]) (linesR_ok h ht)
  have e : frontL r (hdsTxt ts) ++ q = flatE (linesR r ts) ++ (13 :: 10 :: q) := by rw [frontL_flat]; simp
  have hl : (frontL r (hdsTxt ts)).length = n + 4 := by rw [frontL_flat]; simp; omega
  rw [← e] at h1
  have h5 := idx_here (j := 400) h1 (by omega)
  unfold heL
  rw [h5, if_pos (by omega), hl]
  omega
theorem front_read {r : Rq} {ts : List Hd} (h : reqB r = true) (ht : ∀ x ∈ ts, hdB x = true) (q : List UInt8) : readI ((frontL r (hdsTxt ts) ++ q).take ((frontL r (hdsTxt ts)).length - 2)) = some (r.m, r.p, r.hs ++ ts) := by
  have : (frontL r (hdsTxt ts) ++ q).take ((frontL r (hdsTxt ts)).length - 2) = flatE (linesR r ts) := by
    rw [frontL_flat]; simp
  rw [this, readI_lines h ht]
theorem lens_free {hs : List Hd} (h : ∀ x ∈ hs, hdFree x = true) : lensOf hs = [] ∧ codsOf hs = [] ∧ othOf hs = hs := by
  refine ⟨List.filter_eq_nil_iff.2 fun x hx => ?_, List.filter_eq_nil_iff.2 fun x hx => ?_, List.filter_eq_self.2 fun x hx => ?_⟩
  · simp [(free_hd (h x hx)).2.1]
  · simp [(free_hd (h x hx)).2.2]
  · simp [(free_hd (h x hx)).2.1, (free_hd (h x hx)).2.2]
theorem lens_app (a b : List Hd) : lensOf (a ++ b) = lensOf a ++ lensOf b ∧ codsOf (a ++ b) = codsOf a ++ codsOf b ∧ othOf (a ++ b) = othOf a ++ othOf b := by simp [lensOf, codsOf, othOf]
theorem val_dec {n : Nat} (h : n ≤ 9999999) : hdB (lenH n) = true := by
  obtain ⟨_, h2, h3, _⟩ := dec_back n n (Nat.le_refl _)
  have h5 := dec_len 6 n (by omega)
  have hk : ∀ c ∈ Lib.decDigits n, 48 ≤ c.toNat ∧ c.toNat ≤ 57 := fun c hc => by
    have := List.all_eq_true.1 h2 c hc
    simp [anyB, isB] at this
    omega
  have hb : ∀ c ∈ Lib.decDigits n, bl c = false := fun c hc => by
    have := hk c hc
    simp [bl, isB]
    omega
  have hp : allB (Lib.decDigits n) [0] = true := List.all_eq_true.2 fun c hc => by
    have := hk c hc
    simp [anyB, isB]
    omega
  have ht : trimL (Lib.decDigits n) = Lib.decDigits n := trimL_done _ (by omega) (hb _ (List.getElem_mem _)) (hb _ (List.getElem_mem _))
  have hz : (bytesOf (Lib.decDigits n)).size = (Lib.decDigits n).length := by simp [bytesOf, ByteArray.size]
  have h7 : smB lenName.data.toList = true := by decide
  unfold hdB valB
  rw [Bool.and_eq_true, Bool.and_eq_true, Bool.and_eq_true, decide_eq_true_eq, decide_eq_true_eq]
  refine ⟨h7, ?_, hp, ht⟩
  show (bytesOf (Lib.decDigits n)).size ≤ 60
  omega
def chkH : Hd := (codName, ⟨#[99, 104, 117, 110, 107, 101, 100]⟩)
theorem chkH_ok : hdB chkH = true ∧ codOk chkH = true ∧ lensOf [chkH] = [] ∧ codsOf [chkH] = [chkH] ∧ othOf [chkH] = [] := by decide +kernel
theorem lenH_parts (n : Nat) : lensOf [lenH n] = [lenH n] ∧ codsOf [lenH n] = [] ∧ othOf [lenH n] = [] := by
  refine ⟨?_, ?_, ?_⟩
  · simp [lensOf, lenH]
  · have : ¬ lenName = codName := by decide
    simp [codsOf, lenH, this]
  · simp [othOf, lenH]
theorem lenH_num {n : Nat} (h : n ≤ 9999999) : numOk (lenH n) = true ∧ numOf (lenH n) = n := by
  have := parse_dec n 9999999 (by omega) (by omega)
  have e : (lenH n).2.data.toList = Lib.decDigits n := rfl
  unfold numOk numOf
  rw [e, this]
  exact ⟨rfl, by simp⟩
/-- A request comes back of what stands ahead of its body and of its body. -/
theorem round_any {r : Rq} {ts : List Hd} {rest : List UInt8} {n : Nat} (h : reqB r = true) (ht : ∀ x ∈ ts, hdB x = true) (h4 : (frontL r (hdsTxt ts)).length ≤ 400) (hf : frameC (r.hs ++ ts) = 0) (ho : othOf ts = [])
    (hb : bodyL (frontL r (hdsTxt ts) ++ rest) (frontL r (hdsTxt ts)).length (r.hs ++ ts) = (r.b.data.toList, n, 0)) : getR (frontL r (hdsTxt ts) ++ rest) = (r, n, 0) := by
  have he := front_end h ht h4 rest
  have hr := front_read h ht rest
  have e2 : (heL (frontL r (hdsTxt ts) ++ rest)).toNat = (frontL r (hdsTxt ts)).length := by rw [he]; simp
  rw [← e2] at hr hb
  have := getR_good (by rw [he]; omega) hr hf (by rw [hb])
  rw [this, hb, (lens_app _ _).2.2, ho, List.append_nil, (lens_free (req_parts h).2.2.1).2.2, bytesOf_self]
theorem bodyLine_ts (b : ByteArray) : bodyLine b = hdsTxt (if b.size = 0 then [] else [lenH b.size]) := by
  unfold bodyLine
  split
  · rfl
  · simp [hdsTxt, lenLine, hdTxt, lenTag, lenH, lenName, bytesOf]
/-- A request comes back of its bytes, whatever stands behind. -/
theorem putL_back {r : Rq} (h : putL r ≠ []) (q : List UInt8) : reqB r = true ∧ getR (putL r ++ q) = (r, (putL r).length, 0) := by
  unfold putL put0 at h ⊢
  rw [bodyLine_ts] at h ⊢
  by_cases hc : reqB r = true ∧ (frontL r (hdsTxt (if r.b.size = 0 then [] else [lenH r.b.size]))).length ≤ 400
  · rw [if_pos hc]
    refine ⟨hc.1, ?_⟩
    obtain ⟨_, _, p3, p4, p5⟩ := req_parts hc.1
    obtain ⟨f1, f2, f3⟩ := lens_free p3
    have eb : r.b.data.toList.length = r.b.size := Array.length_toList
    rw [List.append_assoc]
    by_cases hz : r.b.size = 0
    · rw [if_pos hz] at hc ⊢
      have h0 : r.b.data.toList = [] := List.length_eq_zero_iff.1 (by omega)
      refine round_any hc.1 (by simp) hc.2 ?_ rfl ?_
      · rw [List.append_nil]; unfold frameC; simp [f1, f2, f3]; omega
      · rw [List.append_nil]
        unfold bodyL chkF lenF
        rw [f1, f2, h0]
        simp
    · rw [if_neg hz] at hc ⊢
      obtain ⟨g1, g2, g3⟩ := lenH_parts r.b.size
      obtain ⟨n1, n2⟩ := lenH_num (n := r.b.size) (by omega)
      refine round_any hc.1 (by intro x hx; obtain rfl := List.mem_singleton.1 hx; exact val_dec (by omega)) hc.2 ?_ g3 ?_
      · unfold frameC
        rw [(lens_app _ _).1, (lens_app _ _).2.1, (lens_app _ _).2.2, f1, f2, f3, g1, g2, g3]
        simp [n1, n2]
        omega
      · unfold bodyL chkF lenF
        rw [(lens_app _ _).1, (lens_app _ _).2.1, f1, f2, g1, g2]
        simp only [List.nil_append, List.isEmpty_nil, Bool.not_true, n2]
        rw [if_neg (by decide), if_neg (by simp [eb]), List.drop_left' rfl, List.take_left' eb]
        simp [eb]
  · rw [if_neg hc] at h
    exact absurd rfl h
/-- A request comes back of its bytes in pieces, whatever stands behind. -/
theorem putC_back {r : Rq} {ns : List Int} (h : put0 r (hdsTxt [chkH]) (putCs ns r.b.data.toList) ≠ []) (q : List UInt8) : reqB r = true ∧ getR (put0 r (hdsTxt [chkH]) (putCs ns r.b.data.toList) ++ q) = (r, (put0 r (hdsTxt [chkH]) (putCs ns r.b.data.toList)).length, 0) := by
  unfold put0 at h ⊢
  by_cases hc : reqB r = true ∧ (frontL r (hdsTxt [chkH])).length ≤ 400
  · rw [if_pos hc]
    refine ⟨hc.1, ?_⟩
    obtain ⟨_, _, p3, p4, p5⟩ := req_parts hc.1
    obtain ⟨f1, f2, f3⟩ := lens_free p3
    have eb : r.b.data.toList.length = r.b.size := Array.length_toList
    obtain ⟨k1, k2, g1, g2, g3⟩ := chkH_ok
    rw [List.append_assoc]
    refine round_any hc.1 (by intro x hx; obtain rfl := List.mem_singleton.1 hx; exact k1) hc.2 ?_ g3 ?_
    · unfold frameC
      rw [(lens_app _ _).1, (lens_app _ _).2.1, (lens_app _ _).2.2, f1, f2, f3, g1, g2, g3]
      simp [k2]
      omega
    · have := chunks_back (frontL r (hdsTxt [chkH])) q ns r.b.data.toList (by omega)
      unfold bodyL chkF
      rw [(lens_app _ _).2.1, f2, g2]
      simp only [List.nil_append, List.isEmpty_cons, Bool.not_false, if_true]
      rw [this]
      simp
  · rw [if_neg hc] at h
    exact absurd rfl h
end Go.Proofs.YtcgmokjnjmefpaaGreatDoor.M
namespace Go.Proofs.YtcgmokjnjmefpaaGreatDoor
open Go.RowKit

/-- What the walk is told of a slice of integers that came in: it is nil; or it leads to a row of 'cap' cells, the numbers 'zs' (the first 'len' are its elements), each fitting its kind. -/
def IsRow (k : IntKind) (w : World) (a : Option Addr) (len cap : Nat) (zs : List Int) : Prop :=
  (a = none ∧ len = 0 ∧ cap = 0 ∧ zs = []) ∨
  ∃ x, a = some x ∧ len ≤ cap ∧ cap ≤ maxLen ∧ zs.length = cap ∧ (∀ i, i < zs.length → w.cell? (x.add i) = some (.int k (zs.getD i 0))) ∧ ∀ n ∈ zs, (Lit.int k n).wf = true
end Go.Proofs.YtcgmokjnjmefpaaGreatDoor
namespace Go.Proofs.YtcgmokjnjmefpaaGreatDoor
open Go.RowKit
set_option linter.unusedVariables false

set_option maxHeartbeats 400000 in
theorem big_any (a : Option Addr) (len cap : Nat) (w : World) (_hl : len ≤ maxLen) :
    Calls Tryz.prog 7 #[.slice a len cap] w fun e w' => e = .returned (.bool (decide ((1048576 : Int) < len))) ∧ w' = w := by
  unfold maxLen at _hl
  go_enter Tryz.func7, Tryz.ntmps7
  go_wp2
  go_ret
  exact ⟨rfl, rfl⟩

theorem row_len {w : World} {a : Option Addr} {len cap : Nat} {zs : List Int} (h : IsRow .u8 w a len cap zs) : len ≤ maxLen := by
  rcases h with ⟨_, rfl, _, _⟩ | ⟨x, _, hl, hm, _⟩
  · exact Nat.zero_le _
  · omega
end Go.Proofs.YtcgmokjnjmefpaaGreatDoor
namespace Go.Proofs.YtcgmokjnjmefpaaGreatDoor
open Go.RowKit M

theorem code_of_row {w : World} {a : Option Addr} {len cap : Nat} {zs : List Int} (h : IsRow .u8 w a len cap zs) (hlen : len ≤ 1048576) : CodeIn w w.heap.size a len zs := by
  rcases h with ⟨rfl, rfl, rfl, rfl⟩ | ⟨x, rfl, hl, hm, hz, hcell, hwz⟩
  · exact ⟨⟨Nat.le_refl _, fun j hj => absurd hj (Nat.not_lt_zero _), fun h => absurd h (Nat.lt_irrefl _)⟩, fun h => absurd h (Nat.lt_irrefl _), hlen, Nat.le_refl _⟩
  · obtain ⟨b, off, spot⟩ := x
    by_cases h0 : 0 < len
    · have hc := hcell 0 (by omega)
      have hspot : spot = none := by simpa [Addr.add] using World.cell?_spot hc
      subst hspot
      have hb : b < w.heap.size := by
        have := World.block_lt_of_cell? w _ hc
        simpa [Addr.add] using this
      refine ⟨⟨by omega, fun j hj => ?_, fun _ => ⟨b, off, rfl, fun j hj => ?_⟩⟩, fun _ b' off' e => ?_, hlen, Nat.le_refl _⟩
      · have hj' : j < zs.length := by omega
        refine bounds_u8 (hwz _ ?_)
        rw [List.getD_eq_getElem?_getD, List.getElem?_eq_getElem hj']
        exact List.getElem_mem hj'
      · have h1 := hcell j (by omega)
        have e : (⟨b, off, none⟩ : Addr).add j = ⟨b, off + j, none⟩ := by unfold Addr.add; split <;> simp_all
        rwa [e] at h1
      · cases e; exact hb
    · exact ⟨⟨by omega, fun j hj => absurd hj (by omega), fun h => absurd h h0⟩, fun h => absurd h h0, hlen, Nat.le_refl _⟩
end Go.Proofs.YtcgmokjnjmefpaaGreatDoor
