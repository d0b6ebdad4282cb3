/-
  What the specification's Pieces does.
-/
import Derived.Test.YtcgmokjnjmefpabDoorSpecMark4
import Derived.Test.YtcgmokjnjmefpabDoorRowsP
import Derived.Test.YtcgmokjnjmefpabDoorSpecPl
namespace Go.Proofs.YtcgmokjnjmefpabDoor
open Go.RowKit M
set_option linter.unusedVariables false

/-- What the specification's Pieces answers. -/
def PcsIsS (w' : World) (B : Nat) (r : List Pce × Bool) (e : Ending) : Prop := ∃ v, e = .returned (.tuple #[v, .bool r.2]) ∧ OwnP w' B v r.1
theorem pcs_retS {w' : World} {B : Nat} {r : List Pce × Bool} {v : Value} {ps : List Pce} {b : Bool} (h : r = (ps, b)) (ho : OwnP w' B v ps) : PcsIsS w' B r (.returned (.tuple #[v, .bool b])) := by subst h; exact ⟨v, rfl, ho⟩
theorem markL_text7 {l : List UInt8} {c : UInt8} (h : l.head? = some c) (hc : c ≠ 60) : markL l = textL7 l := by
  cases l with
  | nil => cases h
  | cons d r =>
    have hd : d = c := Option.some.inj h
    subst hd
    unfold markL
    have h1 : [60, 47].isPrefixOf (d :: r) = false := by
      simp only [List.isPrefixOf]
      have : ((60 : UInt8) == d) = false := by simp [Ne.symm hc]
      rw [this]; rfl
    have h2 : [60].isPrefixOf (d :: r) = false := by
      simp only [List.isPrefixOf]
      have : ((60 : UInt8) == d) = false := by simp [Ne.symm hc]
      rw [this]; rfl
    rw [if_neg (by simp [h1]), if_neg (by simp [h2])]

set_option maxRecDepth 100000 in
set_option maxHeartbeats 4000000 in
theorem specPieces_any (s : ByteArray) (w : World) (hs : s.size ≤ 1099511627776) :
    Calls Tryd.prog 7 #[.string s] w fun e w' => PcsIsS w' w.heap.size (pcsR s.data.toList) e ∧ Below w.heap.size w w' := by
  have HP := hide (fun W : World => specPlain_any s W (by unfold maxLen; omega))
  go_enter Tryd.func7, Tryd.ntmps7
  go_wp2
  go_loopw [4, 5] (fun o i wr => ∃ (k : Nat) (acc : List Pce), k ≤ s.size ∧ i = .int .i64 k ∧ (allB s.data.toList [0] = false → acc = []) ∧ PcAt s.data.toList (s.data.toList.drop k) acc ∧ OwnP wr w.heap.size o acc ∧ Below w.heap.size w wr) (fun _ i _ => s.size - (intOf i).toNat)
  case atStart => exact ⟨0, [], Nat.zero_le _, rfl, fun _ => rfl, PcAt.start _, OwnP.made w w.heap.size (Nat.le_refl _), (Below.refl _ _).alloc (Nat.le_refl _) _⟩
  case round =>
    obtain ⟨k, acc, hks, rfl, hE, hA, hO, hbe⟩ := hrel
    have h60 : acc.length ≤ 60 := hA.2.1
    have HA := hide hA
    have HE := hide hE
    clear hA hE
    obtain ⟨al, cl, rfl⟩ := hO.slice
    have HO := hide hO
    have HBe := hide hbe
    clear hO hbe
    cases hpl : allB s.data.toList [0]
    · rw [hpl] at HP
      have hacc := HE.out hpl
      subst hacc
      have HR := hide (pcsR_not hpl)
      clear hpl HE
      by_cases hlt : k < s.size
      · have hlt' : (k : Int) < s.size := by omega
        go_wp2_with (go_at_call 16; refine (HP.out _).mono ?_; rintro e w1 ⟨rfl, hw⟩; obtain rfl := hw.symm)
        go_ret2
        exact ⟨pcs_retS HR.out HO.out, HBe.out⟩
      · have hlt' : ¬ (k : Int) < s.size := by omega
        go_wp2_with (go_at_call 16; refine (HP.out _).mono ?_; rintro e w1 ⟨rfl, hw⟩; obtain rfl := hw.symm)
        go_ret2
        exact ⟨pcs_retS HR.out HO.out, HBe.out⟩
    · rw [hpl] at HP
      have HPL := hide hpl
      clear hpl HE
      by_cases hlt : k < s.size
      · have hlt' : (k : Int) < s.size := by omega
        have hk0 : (0 : Int) ≤ k := by omega
        have hd := drop_cons s k hlt
        have HNE := hide (show s.data.toList.drop k ≠ [] by rw [hd]; simp)
        have HHd := hide (show (s.data.toList.drop k).head? = some s[k] by rw [hd]; rfl)
        clear hd
        by_cases hn : acc.length = 60
        · have HR := hide (HA.out.many HNE.out hn)
          have hn' : ((acc.length : Int) == 60) = true := by rw [beq_iff_eq]; omega
          clear hn
          go_wp2_with (go_at_call 16; refine (HP.out _).mono ?_; rintro e w1 ⟨rfl, hw⟩; obtain rfl := hw.symm)
          go_ret2
          exact ⟨pcs_retS HR.out (OwnP.made wr w.heap.size HBe.out.size), HBe.out.alloc HBe.out.size _⟩
        · have hn' : ((acc.length : Int) == 60) = false := by rw [beq_eq_false_iff_ne]; omega
          have hn60 : acc.length < 60 := by omega
          clear hn
          have e1 := is_u8 s[k] 60 60 rfl
          by_cases hc : s[k] = 60
          · rw [decide_eq_true hc] at e1
            have HM := hide (fun W : World => l7Mark_any s k W hlt hs hc)
            clear hc
            go_wp2_with (go_at_call 16; refine (HP.out _).mono ?_; rintro e w1 ⟨rfl, hw⟩; obtain rfl := hw.symm)
            refine (HM.out wr).mono ?_
            rintro e w2 ⟨⟨p, z, rfl, hz0, hz1⟩, b2⟩
            have c2 := HBe.out.trans (b2.mono HBe.out.size)
            have O2 := hide (HO.out.next b2)
            cases hm : markL (s.data.toList.drop k) with
            | none =>
              have hz := hz0 hm
              subst hz
              have HR := hide (HA.out.bad HNE.out hm)
              clear hm hz0 hz1
              go_wp2
              go_ret2
              have hO9 := OwnP.made (w2.alloc (Obj.cells #[.int .i64 p.k, .string p.name, .string p.ns, .bool p.has, .string p.s] 42)) w.heap.size (by have := c2.size; simp; omega)
              have hz9 : (w2.alloc (Obj.cells #[.int .i64 p.k, .string p.name, .string p.ns, .bool p.has, .string p.s] 42)).heap.size = w2.heap.size + 1 := by simp
              rw [hz9] at hO9
              exact ⟨pcs_retS HR.out hO9, (c2.alloc c2.size _).alloc (by have := c2.size; simp; omega) _⟩
            | some x =>
              obtain ⟨p', q⟩ := x
              obtain ⟨rfl, k', rfl, hkk, hks2, hq⟩ := hz1 p' q hm
              have hA2 := HA.out.step HNE.out hm hn60
              rw [← hq] at hA2
              have HA2 := hide hA2
              have O3 := hide ((O2.out.alloc (Obj.cells #[.int .i64 p.k, .string p.name, .string p.ns, .bool p.has, .string p.s] 42)).alloc (Obj.cells #[.int .i64 p.k, .string p.name, .string p.ns, .bool p.has, .string p.s] 42))
              clear hm hz0 hz1 hq hA2
              go_wp2_with (at_builtin; refine wp_append_piece rfl _ _ rfl w.heap.size _ acc rfl O3.out _ p rfl ?c0 ?c1 ?c2 ?c3 ?c4 ?c5 ?c6 ?_)
              case c0 => simp
              case c1 => simp
              case c2 => simp
              case c3 => simp
              case c4 => simp
              case c5 => omega
              case c6 => have := c2.size; simp; omega
              intro g4 cap4 w4 o4 b4 _
              have O4 := hide o4
              have B4 := hide (((c2.alloc c2.size _).alloc (by have := c2.size; simp; omega) _).trans b4)
              clear o4 b4 O3
              go_wp2
              go_roundw
              case rel => exact ⟨k', acc ++ [p], hks2, rfl, (fun h => by first | (cases h; done) | (rw [HPL.out] at h; cases h)), HA2.out, O4.out, B4.out⟩
              case measure => simp [intOf]; omega
          · rw [decide_eq_false hc] at e1
            have hmt := markL_text7 HHd.out hc
            have HMT := hide hmt
            have ha := upTo_len s 60 k hks
            have HAT := hide (fun (j : Nat) (h1 : k ≤ j) (h2 : j < s.size) (h3 : j ≤ k + (upTo 60 (s.data.toList.drop k)).length) => upTo_at s 60 k j h1 h2 h3)
            have hXt := extract_upTo s 60 k
            have hDr : s.data.toList.drop (k + (upTo 60 (s.data.toList.drop k)).length) = fromB 60 (s.data.toList.drop k) := by
              have e := upTo_from 60 (s.data.toList.drop k)
              rw [← List.drop_drop]
              generalize upTo 60 (s.data.toList.drop k) = p at e ⊢
              generalize fromB 60 (s.data.toList.drop k) = q at e ⊢
              rw [← e]
              simp
            have hpos : 0 < (upTo 60 (s.data.toList.drop k)).length := by
              cases hu : upTo 60 (s.data.toList.drop k) with
              | nil =>
                have := (upTo_at s 60 k k (Nat.le_refl _) hlt (by omega)).2 (by rw [hu]; rfl)
                exact absurd this hc
              | cons _ _ => simp
            have hm1 := ha.1
            obtain ⟨m, hm⟩ : ∃ m, k + (upTo 60 (s.data.toList.drop k)).length = m := ⟨_, rfl⟩
            have hkm : k < m := by omega
            rw [hm] at HAT hXt hDr hm1
            have hes : (s.extract k m).size ≤ 1099511627776 := by rw [ByteArray.size_extract]; omega
            have HU := hide (fun W : World => specUnescape_any (s.extract k m) W hes)
            rw [hXt] at HU
            obtain ⟨x, b, hx⟩ : ∃ x b, unescR (upTo 60 (s.data.toList.drop k)) = (x, b) := ⟨_, _, rfl⟩
            rw [hx] at HU
            obtain ⟨xb, hxb⟩ : ∃ xb, bytesOf x = xb := ⟨_, rfl⟩
            simp only [hxb] at HU
            obtain ⟨u, hu⟩ : ∃ u, s.extract k m = u := ⟨_, rfl⟩
            rw [hu] at HU
            have HXX := hide hx
            have HXB := hide hxb
            have HDr := hide hDr
            have hms' : (m : Int) ≤ s.size := by omega
            have hkm' : (k : Int) ≤ m := by omega
            clear hc hmt ha hXt hDr hpos hm hes hx hxb
            go_wp2_with (go_at_call 16; refine (HP.out _).mono ?_; rintro e w1 ⟨rfl, hw⟩; obtain rfl := hw.symm)
            go_loop [8] (fun j => ∃ q : Nat, k ≤ q ∧ q ≤ m ∧ j = .int .i64 q) (fun j => m - (intOf j).toNat)
            case atStart => exact ⟨k, Nat.le_refl _, by omega, rfl⟩
            case round =>
              obtain ⟨q, hq1, hq2, rfl⟩ := hrel
              by_cases hqm : q < m
              · have hqs : q < s.size := by omega
                have hqs' : (q : Int) < s.size := by omega
                have hq0 : (0 : Int) ≤ q := by omega
                have e4 := isn_u8 s[q] 60 60 rfl
                have hne : ¬ s[q] = 60 := fun e => by have := (HAT.out q hq1 hqs hq2).1 e; omega
                rw [decide_eq_false hne] at e4
                clear hne
                go_wp2
                go_round
                case rel => exact ⟨q + 1, by omega, by omega, by go_num⟩
                case measure => simp [intOf]; omega
              · obtain rfl : q = m := by omega
                have hstep : (unesc (upTo 60 (s.data.toList.drop k)) = none → pcsR s.data.toList = ([], false)) ∧ (∀ y, unesc (upTo 60 (s.data.toList.drop k)) = some y → PcAt s.data.toList (s.data.toList.drop q) (acc ++ [textP y])) := by
                  refine ⟨fun h => ?_, fun y h => ?_⟩
                  · exact HA.out.bad HNE.out (by rw [HMT.out]; unfold textL7; rw [h])
                  · have := HA.out.step (p := textP y) (q := fromB 60 (s.data.toList.drop k)) HNE.out (by rw [HMT.out]; unfold textL7; rw [h]) hn60
                    rwa [← HDr.out] at this
                have HST := hide hstep
                clear hstep HMT
                by_cases hqs : q < s.size
                case' pos =>
                  have hqs' : (q : Int) < s.size := by omega
                  have hq0 : (0 : Int) ≤ q := by omega
                  have e4 := isn_u8 s[q] 60 60 rfl
                  have heq : s[q] = 60 := (HAT.out q hq1 hqs hq2).2 rfl
                  rw [decide_eq_true heq] at e4
                  clear heq
                case' neg =>
                  have hqs' : ¬ (q : Int) < s.size := by omega
                all_goals
                  clear HAT
                  go_wp2_with fail
                  refine (HU.out _).mono ?_
                  rintro e w2 ⟨rfl, b2⟩
                  have c2 := HBe.out.trans (b2.mono HBe.out.size)
                  have O2 := hide (HO.out.next b2)
                  cases b
                  · have HR := hide (HST.out.1 (unescR_none HXX.out))
                    clear HST
                    go_wp2
                    go_ret2
                    exact ⟨pcs_retS HR.out (OwnP.made w2 w.heap.size c2.size), c2.alloc c2.size _⟩
                  · have HA2 := hide (HST.out.2 x (unescR_some HXX.out))
                    have HTp := hide (show textP x = ⟨4, ⟨#[]⟩, ⟨#[]⟩, false, xb⟩ by rw [← HXB.out]; rfl)
                    have O3 := hide (O2.out.alloc (Obj.cells #[.int .i64 4, .string ⟨#[]⟩, .string ⟨#[]⟩, .bool false, .string xb] 42))
                    rw [HTp.out] at HA2
                    clear HST
                    go_wp2_with (at_builtin; refine wp_append_piece rfl _ _ rfl w.heap.size _ acc rfl O3.out _ ⟨4, ⟨#[]⟩, ⟨#[]⟩, false, xb⟩ rfl ?_ ?_ ?_ ?_ ?_ ?_ ?_ ?_)
                    · omega
                    · have := c2.size; simp; omega
                    intro g4 cap4 w4 o4 b4 _
                    have O4 := hide o4
                    have B4 := hide ((c2.alloc c2.size _).trans b4)
                    clear o4 b4 O3
                    go_wp2
                    go_roundw
                    case rel => exact ⟨q, acc ++ [⟨4, ⟨#[]⟩, ⟨#[]⟩, false, xb⟩], by omega, rfl, (fun h => by first | (cases h; done) | (rw [HPL.out] at h; cases h)), HA2.out, O4.out, B4.out⟩
                    case measure => simp [intOf]; omega
      · have hlt' : ¬ (k : Int) < s.size := by omega
        have hd := HA.out
        rw [drop_none s k hlt] at hd
        have HR := hide (hd.done HPL.out)
        clear hd
        go_wp2_with (go_at_call 16; refine (HP.out _).mono ?_; rintro e w1 ⟨rfl, hw⟩; obtain rfl := hw.symm)
        go_ret2
        exact ⟨pcs_retS HR.out HO.out, HBe.out⟩
end Go.Proofs.YtcgmokjnjmefpabDoor
