/-
  What spec.MayTurn does.
-/
import Derived.Test.YtckhjemojopekaaSpecCovers
import Derived.Test.YtckhjemojopekaaSliceEq
namespace Go.Proofs.Ytckhjemojopekaa
open Go.RowKit M
set_option linter.unusedVariables false

/-- What the looks at a beginning have told: one Shared, one Shared whose Token is there, none that is missing. -/
def mayS (p : List ByteArray) (deep : Bool) (toks : List Int) (m : List Lk) (s d : Bool) : Prop :=
  (m.filter (touchB p deep)).any (·.sh) = s ∧ (m.filter (touchB p deep)).any (fun x => x.sh && hasTk toks x) = d ∧ (m.filter (touchB p deep)).all (fun x => x.sh || hasTk toks x) = true
theorem mayS_not {p : List ByteArray} {deep : Bool} {toks : List Int} {m : List Lk} {s d : Bool} {x : Lk} (h : mayS p deep toks m s d) (hx : touchB p deep x = false) : mayS p deep toks (m ++ [x]) s d := by
  unfold mayS at *
  rw [List.filter_append, List.filter_cons, hx]
  simpa using h
theorem mayS_yes {p : List ByteArray} {deep : Bool} {toks : List Int} {m : List Lk} {s d : Bool} {x : Lk} (h : mayS p deep toks m s d) (hx : touchB p deep x = true) (hy : (x.sh || hasTk toks x) = true) : mayS p deep toks (m ++ [x]) (s || x.sh) (d || (x.sh && hasTk toks x)) := by
  obtain ⟨h1, h2, h3⟩ := h
  refine ⟨?_, ?_, ?_⟩
  · rw [List.filter_append, List.filter_cons, hx, List.any_append, h1]; simp
  · rw [List.filter_append, List.filter_cons, hx, List.any_append, h2]; simp
  · rw [List.filter_append, List.filter_cons, hx, List.all_append, h3]; simpa using hy
theorem may_no {l : List Lk} {p : List ByteArray} {deep : Bool} {toks : List Int} {k : Nat} (hk : k < l.length) (hx : touchB p deep l[k] = true) (hy : (l[k].sh || hasTk toks l[k]) = false) : mayB l p deep toks = false := by
  unfold mayB
  rw [Bool.and_eq_false_iff]
  left
  rw [List.all_eq_false]
  exact ⟨l[k], List.mem_filter.2 ⟨List.getElem_mem hk, hx⟩, by rw [hy]; simp⟩
theorem may_end {l : List Lk} {p : List ByteArray} {deep : Bool} {toks : List Int} {s d : Bool} (h : mayS p deep toks l s d) : mayB l p deep toks = (!s || d) := by
  unfold mayB
  rw [h.1, h.2.1, h.2.2, Bool.true_and]

set_option maxRecDepth 100000 in
set_option maxHeartbeats 8000000 in
theorem specMay_any (a : Option Addr) (l : List Lk) (cap B : Nat) (pp : Option Addr) (p : List ByteArray) (pc C : Nat) (deep : Bool) (ta : Option Addr) (toks : List Int) (tc D : Nat) (w : World) (h : Lks w B a l) (hB : B ≤ w.heap.size) (h' : Strs w C pp p) (hC : C ≤ w.heap.size) (ht : Ints w D ta toks) (hD : D ≤ w.heap.size) (hl : l.length ≤ 1048576) (hpl : p.length ≤ pc) (hpm : pc ≤ maxLen) (htl : toks.length ≤ 1048576) :
    Calls Try.prog 30 #[.slice a l.length cap, .slice pp p.length pc, .bool deep, .slice ta toks.length tc] w fun e w' => e = .returned (.bool (mayB l p deep toks)) ∧ Below w.heap.size w w' := by
  have HH := hide h
  have HP := hide h'
  have HT := hide ht
  have HPL := hide (And.intro hpl hpm)
  have HTL := hide htl
  clear h h' ht hpl hpm htl
  go_enter Try.func30, Try.ntmps30
  go_wp2
  go_loopw [9, 10, 11] (fun sv dv i wr => ∃ (k : Nat) (s d : Bool), k ≤ l.length ∧ i = .int .i64 k ∧ sv = .bool s ∧ dv = .bool d ∧ Hid (mayS p deep toks (l.take k) s d) ∧ Below w.heap.size w wr) (fun _ _ i _ => l.length - (intOf i).toNat)
  case atStart => exact ⟨0, false, false, Nat.zero_le _, rfl, rfl, rfl, (by show mayS _ _ _ _ _ _; refine ⟨?_, ?_, ?_⟩ <;> simp), Below.refl _ _⟩
  case round =>
    obtain ⟨k, s, d, hk, rfl, rfl, rfl, HS, hbe⟩ := hrel
    by_cases hlt : k < l.length
    · obtain ⟨b, o, rfl, hb, hc⟩ := (HH.out.below hbe hB) (by omega)
      obtain ⟨pa, pc1, ⟨hc0, hc1, hc2, hc3, hc4⟩, hin⟩ := hc k hlt
      have hBr := Nat.le_trans hB hbe.size
      have hpy := HP.out.below hbe hC
      have HQ := hide (specCovers_any l[k] pa pc1 pp p pc B C wr hin hBr hpy (Nat.le_trans hC hbe.size) HPL.out.1 HPL.out.2)
      have HU := hide (fun w1 (hb1 : Below wr.heap.size wr w1) => specUnder_any pa pp l[k].pa p pc1 pc B C w1 (hin.ph.below hb1 hBr) (hpy.below hb1 (Nat.le_trans hC hbe.size)) hin.len (Nat.le_trans HPL.out.1 HPL.out.2) hin.pl hin.pm)
      have HI := hide (fun w1 (hb1 : Below w.heap.size w w1) => specHas_any ta toks tc D l[k].tk w1 (HT.out.below hb1 hD) HTL.out)
      have HTK := hide (List.take_succ_eq_append_getElem hlt)
      have HNO := hide (fun (e1 : touchB p deep l[k] = true) e2 => may_no (toks := toks) hlt e1 e2)
      have HY := hide (fun (e1 : touchB p deep l[k] = true) e2 => mayS_yes HS.out e1 e2)
      have HN := hide (fun (e1 : touchB p deep l[k] = false) => mayS_not HS.out e1)
      have HTB := hide (show touchB p deep l[k] = (covB l[k] p || (deep && underB l[k].pa p)) from rfl)
      have HHB := hide (show hasTk toks l[k] = toks.any (· == l[k].tk) from rfl)
      rw [← HTK.out] at HY HN
      have hbw : b < wr.heap.size := by omega
      clear hc hin HTK hpy hBr
      generalize hx : l[k] = x at *
      obtain ⟨tk, tt, de, sh, un⟩ := x
      simp only at hc0 hc1 hc2 hc3 hc4 HQ HU HI HHB HTB
      clear hx
      generalize touchB p deep ⟨tk, tt, de, sh, un⟩ = tb at *
      generalize hasTk toks ⟨tk, tt, de, sh, un⟩ = hs at *
      generalize toks.any (· == tk) = hs2 at *
      generalize covB ⟨tk, tt, de, sh, un⟩ p = cv at *
      generalize underB tt p = un2 at *
      have hHB := HHB.out
      subst hHB
      have hTB := HTB.out
      clear HTB HHB
      go_wp2_with fail
      refine HQ.out.mono ?_
      rintro e w1 ⟨rfl, b1⟩
      have HC1 := hide (hbe.trans (b1.mono hbe.size))
      have HB1 := hide b1
      have d0 := (b1.cell (p := ⟨b, o + k * 5, none⟩) hbw).trans hc0
      have d1 := (b1.cell (p := ⟨b, o + k * 5 + 1, none⟩) hbw).trans hc1
      have d3 := (b1.cell (p := ⟨b, o + k * 5 + 3, none⟩) hbw).trans hc3
      have hbw1 : b < w1.heap.size := by have := b1.size; omega
      clear b1 HQ hc0 hc1 hc2 hc3 hc4 hbw
      cases cv
      · cases deep
        · simp only [Bool.false_and, Bool.or_self] at hTB
          subst hTB
          have HF := hide (HN.out (by trivial))
          clear HNO HY HN HI
          go_wp2
          go_roundw
          case rel => exact ⟨k + 1, s, d, by omega, by go_num, rfl, rfl, HF, HC1.out⟩
          case measure => simp [intOf]; omega
        · have HU1 := hide (HU.out w1 HB1.out)
          clear HU
          go_wp2_with fail
          refine HU1.out.mono ?_
          rintro e w2 ⟨rfl, b2⟩
          have b2 := b2 w1.heap.size
          have HC2 := hide (HC1.out.trans (b2.mono HC1.out.size))
          have e0 := (b2.cell (p := ⟨b, o + k * 5, none⟩) hbw1).trans d0
          have e3 := (b2.cell (p := ⟨b, o + k * 5 + 3, none⟩) hbw1).trans d3
          clear b2 HU1 d0 d1 d3
          simp only [Bool.true_and, Bool.false_or] at hTB
          subst hTB
          cases tb
          · have HF := hide (HN.out (by trivial))
            clear HNO HY HN HI
            go_wp2
            go_roundw
            case rel => exact ⟨k + 1, s, d, by omega, by go_num, rfl, rfl, HF, HC2.out⟩
            case measure => simp [intOf]; omega
          · have HI1 := hide (HI.out w2 HC2.out)
            go_wp2_with fail
            refine HI1.out.mono ?_
            rintro e w9 ⟨rfl, hw⟩
            obtain rfl := hw.symm
            clear HI1 HI hw
            cases hs
            · cases sh
              · have HA := hide (HNO.out (by trivial) (by trivial))
                clear HNO HY HN
                go_wp2
                go_ret
                exact ⟨by first | (rw [HA.out]; done) | (rw [HA.out]; rfl), HC2.out⟩
              · have HF := hide (HY.out (by trivial) (by trivial))
                clear HNO HY HN
                cases s
                · cases d
                  · go_wp2
                    go_roundw
                    case rel => exact ⟨k + 1, true, false, by omega, by go_num, rfl, rfl, hide (by have h := HF.out; simpa using h), HC2.out⟩
                    case measure => simp [intOf]; omega
                  · go_wp2
                    go_roundw
                    case rel => exact ⟨k + 1, true, true, by omega, by go_num, rfl, rfl, hide (by have h := HF.out; simpa using h), HC2.out⟩
                    case measure => simp [intOf]; omega
                · cases d
                  · go_wp2
                    go_roundw
                    case rel => exact ⟨k + 1, true, false, by omega, by go_num, rfl, rfl, hide (by have h := HF.out; simpa using h), HC2.out⟩
                    case measure => simp [intOf]; omega
                  · go_wp2
                    go_roundw
                    case rel => exact ⟨k + 1, true, true, by omega, by go_num, rfl, rfl, hide (by have h := HF.out; simpa using h), HC2.out⟩
                    case measure => simp [intOf]; omega
            · cases sh
              · have HF := hide (HY.out (by trivial) (by trivial))
                clear HNO HY HN
                cases s
                · cases d
                  · go_wp2
                    go_roundw
                    case rel => exact ⟨k + 1, false, false, by omega, by go_num, rfl, rfl, hide (by have h := HF.out; simpa using h), HC2.out⟩
                    case measure => simp [intOf]; omega
                  · go_wp2
                    go_roundw
                    case rel => exact ⟨k + 1, false, true, by omega, by go_num, rfl, rfl, hide (by have h := HF.out; simpa using h), HC2.out⟩
                    case measure => simp [intOf]; omega
                · cases d
                  · go_wp2
                    go_roundw
                    case rel => exact ⟨k + 1, true, false, by omega, by go_num, rfl, rfl, hide (by have h := HF.out; simpa using h), HC2.out⟩
                    case measure => simp [intOf]; omega
                  · go_wp2
                    go_roundw
                    case rel => exact ⟨k + 1, true, true, by omega, by go_num, rfl, rfl, hide (by have h := HF.out; simpa using h), HC2.out⟩
                    case measure => simp [intOf]; omega
              · have HF := hide (HY.out (by trivial) (by trivial))
                clear HNO HY HN
                cases s
                · cases d
                  · go_wp2
                    go_roundw
                    case rel => exact ⟨k + 1, true, true, by omega, by go_num, rfl, rfl, hide (by have h := HF.out; simpa using h), HC2.out⟩
                    case measure => simp [intOf]; omega
                  · go_wp2
                    go_roundw
                    case rel => exact ⟨k + 1, true, true, by omega, by go_num, rfl, rfl, hide (by have h := HF.out; simpa using h), HC2.out⟩
                    case measure => simp [intOf]; omega
                · cases d
                  · go_wp2
                    go_roundw
                    case rel => exact ⟨k + 1, true, true, by omega, by go_num, rfl, rfl, hide (by have h := HF.out; simpa using h), HC2.out⟩
                    case measure => simp [intOf]; omega
                  · go_wp2
                    go_roundw
                    case rel => exact ⟨k + 1, true, true, by omega, by go_num, rfl, rfl, hide (by have h := HF.out; simpa using h), HC2.out⟩
                    case measure => simp [intOf]; omega
      · simp only [Bool.true_or] at hTB
        subst hTB
        clear HU
        have HI1 := hide (HI.out w1 HC1.out)
        go_wp2_with fail
        refine HI1.out.mono ?_
        rintro e w9 ⟨rfl, hw⟩
        obtain rfl := hw.symm
        clear HI1 HI hw
        cases hs
        · cases sh
          · have HA := hide (HNO.out (by trivial) (by trivial))
            clear HNO HY HN
            go_wp2
            go_ret
            exact ⟨by first | (rw [HA.out]; done) | (rw [HA.out]; rfl), HC1.out⟩
          · have HF := hide (HY.out (by trivial) (by trivial))
            clear HNO HY HN
            cases s
            · cases d
              · go_wp2
                go_roundw
                case rel => exact ⟨k + 1, true, false, by omega, by go_num, rfl, rfl, hide (by have h := HF.out; simpa using h), HC1.out⟩
                case measure => simp [intOf]; omega
              · go_wp2
                go_roundw
                case rel => exact ⟨k + 1, true, true, by omega, by go_num, rfl, rfl, hide (by have h := HF.out; simpa using h), HC1.out⟩
                case measure => simp [intOf]; omega
            · cases d
              · go_wp2
                go_roundw
                case rel => exact ⟨k + 1, true, false, by omega, by go_num, rfl, rfl, hide (by have h := HF.out; simpa using h), HC1.out⟩
                case measure => simp [intOf]; omega
              · go_wp2
                go_roundw
                case rel => exact ⟨k + 1, true, true, by omega, by go_num, rfl, rfl, hide (by have h := HF.out; simpa using h), HC1.out⟩
                case measure => simp [intOf]; omega
        · cases sh
          · have HF := hide (HY.out (by trivial) (by trivial))
            clear HNO HY HN
            cases s
            · cases d
              · go_wp2
                go_roundw
                case rel => exact ⟨k + 1, false, false, by omega, by go_num, rfl, rfl, hide (by have h := HF.out; simpa using h), HC1.out⟩
                case measure => simp [intOf]; omega
              · go_wp2
                go_roundw
                case rel => exact ⟨k + 1, false, true, by omega, by go_num, rfl, rfl, hide (by have h := HF.out; simpa using h), HC1.out⟩
                case measure => simp [intOf]; omega
            · cases d
              · go_wp2
                go_roundw
                case rel => exact ⟨k + 1, true, false, by omega, by go_num, rfl, rfl, hide (by have h := HF.out; simpa using h), HC1.out⟩
                case measure => simp [intOf]; omega
              · go_wp2
                go_roundw
                case rel => exact ⟨k + 1, true, true, by omega, by go_num, rfl, rfl, hide (by have h := HF.out; simpa using h), HC1.out⟩
                case measure => simp [intOf]; omega
          · have HF := hide (HY.out (by trivial) (by trivial))
            clear HNO HY HN
            cases s
            · cases d
              · go_wp2
                go_roundw
                case rel => exact ⟨k + 1, true, true, by omega, by go_num, rfl, rfl, hide (by have h := HF.out; simpa using h), HC1.out⟩
                case measure => simp [intOf]; omega
              · go_wp2
                go_roundw
                case rel => exact ⟨k + 1, true, true, by omega, by go_num, rfl, rfl, hide (by have h := HF.out; simpa using h), HC1.out⟩
                case measure => simp [intOf]; omega
            · cases d
              · go_wp2
                go_roundw
                case rel => exact ⟨k + 1, true, true, by omega, by go_num, rfl, rfl, hide (by have h := HF.out; simpa using h), HC1.out⟩
                case measure => simp [intOf]; omega
              · go_wp2
                go_roundw
                case rel => exact ⟨k + 1, true, true, by omega, by go_num, rfl, rfl, hide (by have h := HF.out; simpa using h), HC1.out⟩
                case measure => simp [intOf]; omega
    · have HF := hide (show l.take k = l from List.take_of_length_le (by omega))
      rw [HF.out] at HS
      have HA := hide (may_end HS.out)
      clear HS
      cases s
      · cases d
        · go_wp2
          go_ret
          exact ⟨by first | (rw [HA.out]; done) | (rw [HA.out]; rfl), hbe⟩
        · go_wp2
          go_ret
          exact ⟨by first | (rw [HA.out]; done) | (rw [HA.out]; rfl), hbe⟩
      · cases d
        · go_wp2
          go_ret
          exact ⟨by first | (rw [HA.out]; done) | (rw [HA.out]; rfl), hbe⟩
        · go_wp2
          go_ret
          exact ⟨by first | (rw [HA.out]; done) | (rw [HA.out]; rfl), hbe⟩
end Go.Proofs.Ytckhjemojopekaa
