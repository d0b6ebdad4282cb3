/-
  What impl.barEachOther, noTwo at it, and impl.LocksOk do.
-/
import Derived.Test.YtclnpfpaabmkcaaGenPick
import Derived.Test.YtclnpfpaabmkcaaClashI
import Derived.Test.YtclnpfpaabmkcaaLockOkI
namespace Go.Proofs.Ytclnpfpaabmkcaa
open Go.RowKit M
set_option linter.unusedVariables false

set_option maxHeartbeats 1000000 in
theorem barEach_any (r : Lk) (pa : Option Addr) (pc : Nat) (s : Lk) (qa : Option Addr) (qc B C : Nat) (w : World) (h : LkIn w B r pa pc) (hB : B ≤ w.heap.size) (h' : LkIn w C s qa qc) (hC : C ≤ w.heap.size) :
    Calls Try.prog 31 #[.agg #[.int .i64 r.tk, .slice pa r.pa.length pc, .bool r.de, .bool r.sh, .int .i64 r.un], .agg #[.int .i64 s.tk, .slice qa s.pa.length qc, .bool s.de, .bool s.sh, .int .i64 s.un]] w fun e w' => e = .returned (.bool (barB r s)) ∧ Below w.heap.size w w' := by
  have hb0 : Below w.heap.size w ((w.alloc (Obj.cells #[.int .i64 r.tk, .slice pa r.pa.length pc, .bool r.de, .bool r.sh, .int .i64 r.un] 27)).alloc (Obj.cells #[.int .i64 s.tk, .slice qa s.pa.length qc, .bool s.de, .bool s.sh, .int .i64 s.un] 27)) := ((Below.refl _ _).alloc (Nat.le_refl _) _).alloc (by simp) _
  have HS := hide (lockClash_any r pa pc s qa qc B C _ (h.below hb0 hB) (Nat.le_trans hB hb0.size) (h'.below hb0 hC) (Nat.le_trans hC hb0.size))
  have HB0 := hide hb0
  clear hb0 h h'
  by_cases htk : r.tk = s.tk
  · rw [bar_tk htk]
    have hv : (r.tk == s.tk) = true := by rw [htk]; simp
    clear htk
    go_enter Try.func31, Try.ntmps31
    go_wp2
    go_ret
    exact ⟨rfl, HB0.out⟩
  · rw [bar_cl htk]
    have hv : (r.tk == s.tk) = false := by rw [beq_eq_false_iff_ne]; exact htk
    clear htk
    go_enter Try.func31, Try.ntmps31
    go_wp2_with fail
    refine HS.out.mono ?_
    rintro e w1 ⟨rfl, hb1⟩
    have c1 := HB0.out.trans (hb1.mono HB0.out.size)
    go_wp2
    go_ret
    exact ⟨rfl, c1⟩

/-- Whether no two of them bar each other. -/
def noTwoB (l : List Lk) : Prop := ∀ i k (hk : k < i) (hi : i < l.length), barB (l[k]'(by omega)) l[i] = false

set_option maxRecDepth 100000 in
set_option maxHeartbeats 4000000 in
theorem noTwo_any (a : Option Addr) (l : List Lk) (cap B : Nat) (w : World) (h : Lks w B a l) (hB : B ≤ w.heap.size) (hl : l.length ≤ cap) (hm : cap ≤ maxLen) :
    Calls Try.prog 30 #[.slice a l.length cap, .func (.func 31) #[] #[]] w fun e w' => (∃ z : Bool, e = .returned (.bool z) ∧ (z = true → noTwoB l) ∧ (z = false → ∃ k i, ∃ (hk : k < i) (hi : i < l.length), barB (l[k]'(by omega)) l[i] = true)) ∧ Below w.heap.size w w' := by
  unfold maxLen at hm
  have HH := hide h
  clear h
  go_enter Try.func30, Try.ntmps30
  go_wp2
  go_loopw [11] (fun iv wr => ∃ i : Nat, i ≤ l.length ∧ iv = .int .i64 i ∧ Hid (∀ j k (hk : k < j) (hj : j < l.length), j < i → barB (l[k]'(by omega)) l[j] = false) ∧ Below w.heap.size w wr) (fun iv _ => l.length - (intOf iv).toNat)
  case atStart => exact ⟨0, Nat.zero_le _, rfl, fun j _ _ _ hj => absurd hj (Nat.not_lt_zero _), Below.refl _ _⟩
  case round =>
    obtain ⟨i, hi, rfl, ht2, hbe⟩ := hrel
    by_cases hlt : i < l.length
    · obtain ⟨b, o, rfl, hb, hc⟩ := (HH.out.below hbe hB) (by omega)
      obtain ⟨pa, pc, ⟨hc0, hc1, hc2, hc3, hc4⟩, hin⟩ := hc i hlt
      obtain ⟨wo, hwo⟩ : ∃ wo : World, wo = wr := ⟨_, rfl⟩
      subst hwo
      have b1 := (Below.refl wo.heap.size wo).alloc (Nat.le_refl _) (Obj.cells #[.int .i64 l[i].tk, .slice pa l[i].pa.length pc, .bool l[i].de, .bool l[i].sh, .int .i64 l[i].un] 27)
      have HBX := hide (BoxL.made wo l[i] pa pc 27)
      have HCA := hide (hbe.alloc hbe.size (Obj.cells #[.int .i64 l[i].tk, .slice pa l[i].pa.length pc, .bool l[i].de, .bool l[i].sh, .int .i64 l[i].un] 27))
      have HIN := hide (hin.below b1 (Nat.le_trans hB hbe.size))
      clear hc hin b1
      have hic : (i : Int) ≤ cap := by omega
      have hi0 : (0 : Int) ≤ (i : Int) := by omega
      go_wp2
      clear hc0 hc1 hc2 hc3 hc4
      go_loopw [20] (fun kv wz => ∃ k : Nat, k ≤ i ∧ kv = .int .i64 k ∧ Hid (∀ j (hj : j < i), j < k → barB (l[j]'(by omega)) l[i] = false) ∧ Hid (BoxL wz wo.heap.size l[i] pa pc) ∧ Hid (Below w.heap.size w wz) ∧ Hid (LkIn wz B l[i] pa pc)) (fun kv _ => i - (intOf kv).toNat)
      case atStart => exact ⟨0, Nat.zero_le _, rfl, fun j _ hj => absurd hj (Nat.not_lt_zero _), HBX, HCA, HIN⟩
      case round =>
        obtain ⟨k, hk, rfl, ht3, HBX2, HC2, HIN2⟩ := hrel
        by_cases hki : k < i
        · have hkl : k < l.length := by omega
          obtain ⟨b2, o2, e2, hb2, hc⟩ := (HH.out.below HC2.out hB) (by omega)
          cases e2
          obtain ⟨qa, qc, ⟨hx0, hx1, hx2, hx3, hx4⟩, hin1⟩ := hc k hkl
          have b3 := (Below.refl wr.heap.size wr).alloc (Nat.le_refl _) (Obj.cells #[.int .i64 l[k].tk, .slice qa l[k].pa.length qc, .bool l[k].de, .bool l[k].sh, .int .i64 l[k].un] 27)
          have c3 := HC2.out.trans (b3.mono HC2.out.size)
          have HB3 := hide (HBX2.out.alloc (Obj.cells #[.int .i64 l[k].tk, .slice qa l[k].pa.length qc, .bool l[k].de, .bool l[k].sh, .int .i64 l[k].un] 27))
          have HI3 := hide (HIN2.out.below b3 (Nat.le_trans hB HC2.out.size))
          have HS := hide (barEach_any l[k] qa qc l[i] pa pc B B _ (hin1.below b3 (Nat.le_trans hB HC2.out.size)) (Nat.le_trans hB c3.size) HI3.out (Nat.le_trans hB c3.size))
          have HC3 := hide c3
          obtain ⟨z, hz⟩ : ∃ z, barB l[k] l[i] = z := ⟨_, rfl⟩
          rw [hz] at HS
          have HZ := hide hz
          obtain ⟨_, y0, y1, y2, y3, y4⟩ := HB3.out
          clear hz hc hin1 b3 c3 HBX2 HIN2
          have hk0 : (0 : Int) ≤ (k : Int) := by omega
          have hk1 : (k : Int) < (i : Int) := by omega
          go_wp2_with fail
          refine HS.out.mono ?_
          rintro e w5 ⟨rfl, b5⟩
          have HB5 := hide (HB3.out.next b5)
          have HI5 := hide (HI3.out.below b5 (Nat.le_trans hB HC3.out.size))
          have HC5 := hide (HC3.out.trans (b5.mono HC3.out.size))
          clear b5 HB3 HI3 HC3 HS y0 y1 y2 y3 y4
          cases z
          · go_wp2
            go_roundw
            case rel => exact ⟨k + 1, by omega, by go_num, fun j hj hjk => if e : j = k then by subst e; exact HZ.out else ht3.out j hj (by omega), HB5, HC5, HI5⟩
            case measure => simp [intOf]; omega
          · go_wp2
            go_ret
            exact ⟨⟨false, rfl, fun e => absurd e (by decide), fun _ => ⟨k, i, hki, hlt, HZ.out⟩⟩, HC5.out⟩
        · have hke : k = i := by omega
          subst hke
          have HC2' := HC2
          go_wp2
          go_roundw
          case rel => exact ⟨k + 1, by omega, by go_num, fun j q hq hj hjk => if e : j = k then by subst e; exact ht3.out q hq hq else ht2.out j q hq hj (by omega), HC2'.out⟩
          case measure => simp [intOf]; omega
    · go_wp2
      go_ret
      exact ⟨⟨true, rfl, fun _ j q hq hj => ht2.out j q hq hj (by omega), fun e => absurd e (by decide)⟩, hbe⟩

set_option maxRecDepth 100000 in
set_option maxHeartbeats 4000000 in
theorem locksOk_any (a : Option Addr) (l : List Lk) (cap B : Nat) (w : World) (h : Lks w B a l) (hB : B ≤ w.heap.size) (hsh : ShortK l) (hl : l.length ≤ cap) (hm : cap ≤ maxLen) :
    Calls Try.prog 12 #[.slice a l.length cap] w fun e w' => e = .returned (.bool (locksB l)) ∧ Below w.heap.size w w' := by
  have hm2 := hm
  unfold maxLen at hm2
  have HH := hide h
  clear h
  by_cases h6 : l.length ≤ 6
  rotate_left
  · have HF := hide (locksB_long h6)
    go_enter Try.func12, Try.ntmps12
    go_wp2
    go_ret
    exact ⟨ret_bool HF.out.symm, Below.refl _ _⟩
  · go_enter Try.func12, Try.ntmps12
    go_wp2
    go_loopw [10] (fun iv wr => ∃ i : Nat, i ≤ l.length ∧ iv = .int .i64 i ∧ Hid (∀ j (hj : j < l.length), j < i → lockB l[j] = true) ∧ Below w.heap.size w wr) (fun iv _ => l.length - (intOf iv).toNat)
    case atStart => exact ⟨0, Nat.zero_le _, rfl, fun j _ hj => absurd hj (Nat.not_lt_zero _), Below.refl _ _⟩
    case round =>
      obtain ⟨i, hi, rfl, ht1, hbe⟩ := hrel
      by_cases hlt : i < l.length
      · obtain ⟨b, o, rfl, hb, hc⟩ := (HH.out.below hbe hB) (by omega)
        obtain ⟨pa, pc, ⟨hc0, hc1, hc2, hc3, hc4⟩, hin⟩ := hc i hlt
        have b1 := (Below.refl wr.heap.size wr).alloc (Nat.le_refl _) (Obj.cells #[.int .i64 l[i].tk, .slice pa l[i].pa.length pc, .bool l[i].de, .bool l[i].sh, .int .i64 l[i].un] 27)
        have c1 := hbe.trans (b1.mono hbe.size)
        have HC := hide (lockOk_any l[i] pa pc B _ (hin.below b1 (Nat.le_trans hB hbe.size)) (Nat.le_trans hB c1.size) (hsh.at i hlt).ps)
        have HC1 := hide c1
        obtain ⟨z, hz⟩ : ∃ z, lockB l[i] = z := ⟨_, rfl⟩
        rw [hz] at HC
        have HZ := hide hz
        clear hz hc hin b1 c1
        go_wp2_with fail
        refine HC.out.mono ?_
        rintro e w1 ⟨rfl, hb1⟩
        have c2 := HC1.out.trans (hb1.mono HC1.out.size)
        clear HC hb1 HC1 hc0 hc1 hc2 hc3 hc4
        cases z
        · have HF := hide (locksB_not i hlt HZ.out)
          go_wp2
          go_ret
          exact ⟨ret_bool HF.out.symm, c2⟩
        · go_wp2
          go_roundw
          case rel => exact ⟨i + 1, by omega, by go_num, fun j hj hjk => if e : j = i then by subst e; exact HZ.out else ht1.out j hj (by omega), c2⟩
          case measure => simp [intOf]; omega
      · have HN := hide (noTwo_any a l cap B wr (HH.out.below hbe hB) (Nat.le_trans hB hbe.size) hl hm)
        have HT := hide (fun j hj => ht1.out j hj (by omega))
        clear ht1
        go_wp2_with fail
        refine HN.out.mono ?_
        rintro e w1 ⟨⟨z, rfl, hz1, hz2⟩, hb1⟩
        have c2 := hbe.trans (hb1.mono hbe.size)
        cases z
        · obtain ⟨k, j, hk, hj, hbar⟩ := hz2 rfl
          have HF := hide (locksB_bar k j hk hj hbar)
          clear hz1 hz2 hbar
          go_wp2
          go_ret
          exact ⟨ret_bool HF.out.symm, c2⟩
        · have HF := hide (locksB_yes h6 (fun j hj => HT.out j hj) (fun j q hq hj => hz1 rfl j q hq hj))
          clear hz1 hz2
          go_wp2
          go_ret
          exact ⟨ret_bool HF.out.symm, c2⟩
end Go.Proofs.Ytclnpfpaabmkcaa
