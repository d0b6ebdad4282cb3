/-
  What the specification's l7Mark does.
  What the specification's own Plain does.
  What the specification's Pieces does.
  What the specification's NodeOk does: it counts, up to where something is not right.
  A piece's text is no longer than what it was read of.
  What the program's allOf does: whether all bytes of a text are of one of these kinds.
  What the program's Plain does.
  What SmallName (the program's) does.
  What the program's NodeOk does: one's own parts, and how many there may still be.
  What strings.Cut does at one byte.
  What the program's cutName does.
  What the program's ParseNum does.
-/
import Derived.Test.YtccehdlgpbeijaaGreatDoorSpecMark3
import Derived.Test.YtccehdlgpbeijaaGreatDoorKinds
import Derived.Test.YtccehdlgpbeijaaGreatDoorSpecMark2
import Derived.Test.YtccehdlgpbeijaaGreatDoorRowsP
import Derived.Test.YtccehdlgpbeijaaGreatDoorSpecSkip
import Derived.Test.YtccehdlgpbeijaaGreatDoorNodeR
import Derived.Test.YtccehdlgpbeijaaGreatDoorShelf
import Derived.WalkKit
import Derived.WalkSpells
import Derived.WalkLawsBesides
import Derived.Deep.Light
import Derived.Deep.QuietTactic
import Derived.BigQuiet
import Derived.Deep.RegionHeld3
import Derived.Lib.ConvBytes
namespace Go.Proofs.YtccehdlgpbeijaaGreatDoor
open Go.RowKit M
set_option linter.unusedVariables false

set_option maxRecDepth 100000 in
set_option maxHeartbeats 8000000 in
theorem l7Mark_open (s : ByteArray) (a : Nat) (w : World) (ha : a < s.size) (hs : s.size ≤ 1099511627776) (hp2 : [60, 47].isPrefixOf (s.data.toList.drop a) = false) (hp : [60].isPrefixOf (s.data.toList.drop a) = true) :
    Calls Tryz.prog 54 #[.string s, .int .i64 a] w fun e w' => MarkAt s a e ∧ Below w.heap.size w w' := by
  have el : s.data.toList.length = s.size := Array.length_toList
  have h2 : a + 1 ≤ s.size := by omega
  have em : markL (s.data.toList.drop a) = openL (s.data.toList.drop (a + 1)) := by unfold markL; rw [if_neg (by simp [hp2]), if_pos hp, List.drop_drop]
  have H1 := hide (fun W : World => l7At_any s ⟨#[60, 47]⟩ [60, 47] rfl a W (by omega) hs (by decide))
  rw [hp2] at H1
  have HN := hide (fun W : World => l7Name_any s (a + 1) W h2 hs)
  have hZ := nm_size s (a + 1) h2
  have hT := nm_take s (a + 1)
  have hD := nm_drop s (a + 1)
  have HA := hide (fun (W : World) h => l7At_any s ⟨#[32, 120, 109, 108, 110, 115, 61, 34]⟩ spcS rfl (a + 1 + (nmL (s.data.toList.drop (a + 1))).length) W h hs (by decide))
  obtain ⟨k, hk⟩ : ∃ k, a + 1 + (nmL (s.data.toList.drop (a + 1))).length = k := ⟨_, rfl⟩
  rw [hk] at HN hZ hT hD HA
  have hak : a + 1 ≤ k := by omega
  have HX := hide (fun W : World => HA.out W hZ)
  rw [hD] at HX
  have hxs : (s.extract (a + 1) k).size ≤ maxLen := by rw [ByteArray.size_extract]; unfold maxLen; omega
  have HS := hide (fun W : World => specSmallName_any (s.extract (a + 1) k) W hxs)
  rw [hT] at HS
  have hak' : (a : Int) + 1 ≤ k := by omega
  have hks' : (k : Int) ≤ s.size := by omega
  have ha0 : (0 : Int) ≤ (a : Int) + 1 := by omega
  have HNm := hide (bytes_ofS _ _ hT)
  obtain ⟨n, hn⟩ : ∃ n, s.extract (a + 1) k = n := ⟨_, rfl⟩
  rw [hn] at HS HNm
  cases hsm : smB (nmL (s.data.toList.drop (a + 1)))
  · rw [hsm] at HS
    have HR := hide (at_none (em.trans (openL_none (.inl hsm))))
    clear el em hT hD HA HX hxs hsm hk
    go_enter Tryz.func54, Tryz.ntmps54
    go_wp2_with fail
    refine (H1.out _).mono ?_
    rintro e w9 ⟨rfl, hw⟩
    obtain rfl := hw.symm
    go_wp2_with fail
    refine (HN.out _).mono ?_
    rintro e w9 ⟨rfl, hw⟩
    obtain rfl := hw.symm
    go_wp2_with fail
    refine (HS.out _).mono ?_
    rintro e w9 ⟨rfl, hw⟩
    obtain rfl := hw.symm
    go_wp2
    refine bodyPost_ret (v := .tuple #[.agg #[.int .i64 0, .string ⟨#[]⟩, .string ⟨#[]⟩, .bool false, .string ⟨#[]⟩], .int .i64 (-1)]) (by simp [results, Tryz.results54, go_sem]) rfl ⟨HR.out, ?_⟩
    exact ((Below.refl _ _).alloc (Nat.le_refl _) _).alloc (by simp) _
  · rw [hsm] at HS
    cases hsp : spcS.isPrefixOf (nmR (s.data.toList.drop (a + 1)))
    · rw [hsp] at HX
      have eo := em.trans (openL_end hsm (spc_no hsp))
      have H62 := hide (fun W : World => l7At_any s ⟨#[62]⟩ [62] rfl k W hZ hs (by decide))
      have H47 := hide (fun W : World => l7At_any s ⟨#[47, 62]⟩ [47, 62] rfl k W hZ hs (by decide))
      rw [hD] at H62 H47
      cases h62 : [62].isPrefixOf (nmR (s.data.toList.drop (a + 1)))
      · rw [h62] at H62
        cases h47 : [47, 62].isPrefixOf (nmR (s.data.toList.drop (a + 1)))
        · rw [h47] at H47
          have HR := hide (at_none (eo.trans (endM_0 h62 h47)))
          clear el em hT hD HA hxs hsm hk hsp eo h62 h47
          go_enter Tryz.func54, Tryz.ntmps54
          go_wp2_with fail
          refine (H1.out _).mono ?_
          rintro e w9 ⟨rfl, hw⟩
          obtain rfl := hw.symm
          go_wp2_with fail
          refine (HN.out _).mono ?_
          rintro e w9 ⟨rfl, hw⟩
          obtain rfl := hw.symm
          go_wp2_with fail
          refine (HS.out _).mono ?_
          rintro e w9 ⟨rfl, hw⟩
          obtain rfl := hw.symm
          go_wp2_with fail
          refine (HX.out _).mono ?_
          rintro e w9 ⟨rfl, hw⟩
          obtain rfl := hw.symm
          go_wp2_with fail
          refine (H62.out _).mono ?_
          rintro e w9 ⟨rfl, hw⟩
          obtain rfl := hw.symm
          go_wp2_with fail
          refine (H47.out _).mono ?_
          rintro e w9 ⟨rfl, hw⟩
          obtain rfl := hw.symm
          go_wp2
          refine bodyPost_ret (v := .tuple #[.agg #[.int .i64 0, .string ⟨#[]⟩, .string ⟨#[]⟩, .bool false, .string ⟨#[]⟩], .int .i64 (-1)]) (by simp [results, Tryz.results54, go_sem]) rfl ⟨HR.out, ?_⟩
          exact ((Below.refl _ _).alloc (Nat.le_refl _) _).alloc (by simp) _
        · rw [h47] at H47
          have hk1 : k + 2 ≤ s.size := by have := pre_len h47; rw [← hD, List.length_drop] at this; simp at this; omega
          have HR : Hid (MarkAt s a (.returned (.tuple #[.agg #[.int .i64 3, .string n, .string ⟨#[]⟩, .bool false, .string ⟨#[]⟩], .int .i64 ((k : Int) + 2)]))) :=
            at_some (eo.trans (endM_3 h47)) (k := k + 2) (by omega) (by omega) hk1 (by rw [← hD, List.drop_drop]) rfl HNm.out rfl rfl rfl
          clear el em hT hD HA hxs hsm hk hsp eo h62 h47
          go_enter Tryz.func54, Tryz.ntmps54
          go_wp2_with fail
          refine (H1.out _).mono ?_
          rintro e w9 ⟨rfl, hw⟩
          obtain rfl := hw.symm
          go_wp2_with fail
          refine (HN.out _).mono ?_
          rintro e w9 ⟨rfl, hw⟩
          obtain rfl := hw.symm
          go_wp2_with fail
          refine (HS.out _).mono ?_
          rintro e w9 ⟨rfl, hw⟩
          obtain rfl := hw.symm
          go_wp2_with fail
          refine (HX.out _).mono ?_
          rintro e w9 ⟨rfl, hw⟩
          obtain rfl := hw.symm
          go_wp2_with fail
          refine (H62.out _).mono ?_
          rintro e w9 ⟨rfl, hw⟩
          obtain rfl := hw.symm
          go_wp2_with fail
          refine (H47.out _).mono ?_
          rintro e w9 ⟨rfl, hw⟩
          obtain rfl := hw.symm
          go_wp2
          refine bodyPost_ret (v := .tuple #[.agg #[.int .i64 3, .string n, .string ⟨#[]⟩, .bool false, .string ⟨#[]⟩], .int .i64 ((k : Int) + 2)]) (by simp [results, Tryz.results54, go_sem]) rfl ⟨HR.out, ((Below.refl _ _).alloc (Nat.le_refl _) _).alloc (by simp) _⟩
      · rw [h62] at H62
        have hk1 : k + 1 ≤ s.size := by have := pre_len h62; rw [← hD, List.length_drop] at this; simp at this; omega
        have HR : Hid (MarkAt s a (.returned (.tuple #[.agg #[.int .i64 1, .string n, .string ⟨#[]⟩, .bool false, .string ⟨#[]⟩], .int .i64 ((k : Int) + 1)]))) :=
          at_some (eo.trans (endM_1 h62)) (k := k + 1) (by omega) (by omega) hk1 (by rw [← hD, List.drop_drop]) rfl HNm.out rfl rfl rfl
        clear el em hT hD HA hxs hsm hk hsp eo h62 H47
        go_enter Tryz.func54, Tryz.ntmps54
        go_wp2_with fail
        refine (H1.out _).mono ?_
        rintro e w9 ⟨rfl, hw⟩
        obtain rfl := hw.symm
        go_wp2_with fail
        refine (HN.out _).mono ?_
        rintro e w9 ⟨rfl, hw⟩
        obtain rfl := hw.symm
        go_wp2_with fail
        refine (HS.out _).mono ?_
        rintro e w9 ⟨rfl, hw⟩
        obtain rfl := hw.symm
        go_wp2_with fail
        refine (HX.out _).mono ?_
        rintro e w9 ⟨rfl, hw⟩
        obtain rfl := hw.symm
        go_wp2_with fail
        refine (H62.out _).mono ?_
        rintro e w9 ⟨rfl, hw⟩
        obtain rfl := hw.symm
        go_wp2
        refine bodyPost_ret (v := .tuple #[.agg #[.int .i64 1, .string n, .string ⟨#[]⟩, .bool false, .string ⟨#[]⟩], .int .i64 ((k : Int) + 1)]) (by simp [results, Tryz.results54, go_sem]) rfl ⟨HR.out, ((Below.refl _ _).alloc (Nat.le_refl _) _).alloc (by simp) _⟩
    · exact l7Mark_space s a w ha hs hp2 hp hsm hsp

theorem l7Mark_any (s : ByteArray) (a : Nat) (w : World) (ha : a < s.size) (hs : s.size ≤ 1099511627776) (h60 : s[a] = 60) :
    Calls Tryz.prog 54 #[.string s, .int .i64 a] w fun e w' => MarkAt s a e ∧ Below w.heap.size w w' := by
  have hd := drop_cons s a ha
  have hp : [60].isPrefixOf (s.data.toList.drop a) = true := by rw [hd, h60]; simp [List.isPrefixOf]
  cases hp2 : [60, 47].isPrefixOf (s.data.toList.drop a)
  · exact l7Mark_open s a w ha hs hp2 hp
  · exact l7Mark_close s a w ha hs hp2
end Go.Proofs.YtccehdlgpbeijaaGreatDoor
namespace Go.Proofs.YtccehdlgpbeijaaGreatDoor
open Go.RowKit M

set_option maxHeartbeats 400000 in
theorem specPlain_any (s : ByteArray) (w : World) (hs : s.size ≤ maxLen) :
    Calls Tryz.prog 53 #[.string s] w fun e w' => e = .returned (.bool (allB s.data.toList [0])) ∧ w' = w := by
  unfold maxLen at hs
  go_enter Tryz.func53, Tryz.ntmps53
  go_wp2
  go_loop [3] (fun i => ∃ k : Nat, k ≤ s.size ∧ i = .int .i64 k ∧ allB (s.data.toList.take k) [0] = true) (fun i => s.size - (intOf i).toNat)
  case atStart => exact ⟨0, Nat.zero_le _, rfl, rfl⟩
  case round =>
    obtain ⟨k, hk, rfl, hn⟩ := hrel
    have HN : Hid (allB (s.data.toList.take k) [0] = true) := hn; clear hn
    by_cases hlt : k < s.size
    · go_wp2_with (go_at_call 75; refine (l1In_any _ _ _ _).mono ?_; rintro e w' ⟨rfl, rfl⟩; rw [wrap64_u8, inB_plain])
      · go_ret
        exact ⟨ret_bool (by rw [allB_not s [0] k hlt (by assumption)]), rfl⟩
      · go_round
        case rel => exact ⟨k + 1, by omega, by go_num, allB_snoc s [0] k hlt HN.out (by assumption)⟩
        case measure => simp [intOf]; omega
    · go_wp2
      go_ret
      exact ⟨ret_bool (by rw [← HN.out, take_all s k hlt]), rfl⟩

end Go.Proofs.YtccehdlgpbeijaaGreatDoor
namespace Go.Proofs.YtccehdlgpbeijaaGreatDoor
open Go.RowKit M
set_option linter.unusedVariables false

/-- What the specification's Pieces answers. -/
def PcsIsS (w' : World) (B : Nat) (r : List Pce × Bool) (e : Ending) : Prop := ∃ v, e = .returned (.tuple #[v, .bool r.2]) ∧ OwnP w' B v r.1
theorem pcs_retS {w' : World} {B : Nat} {r : List Pce × Bool} {v : Value} {ps : List Pce} {b : Bool} (h : r = (ps, b)) (ho : OwnP w' B v ps) : PcsIsS w' B r (.returned (.tuple #[v, .bool b])) := by subst h; exact ⟨v, rfl, ho⟩
theorem markL_text7 {l : List UInt8} {c : UInt8} (h : l.head? = some c) (hc : c ≠ 60) : markL l = textL7 l := by
  cases l with
  | nil => cases h
  | cons d r =>
    have hd : d = c := Option.some.inj h
    subst hd
    unfold markL
    have h1 : [60, 47].isPrefixOf (d :: r) = false := by
      simp only [List.isPrefixOf]
      have : ((60 : UInt8) == d) = false := by simp [Ne.symm hc]
      rw [this]; rfl
    have h2 : [60].isPrefixOf (d :: r) = false := by
      simp only [List.isPrefixOf]
      have : ((60 : UInt8) == d) = false := by simp [Ne.symm hc]
      rw [this]; rfl
    rw [if_neg (by simp [h1]), if_neg (by simp [h2])]

set_option maxRecDepth 100000 in
set_option maxHeartbeats 4000000 in
theorem specPieces_any (s : ByteArray) (w : World) (hs : s.size ≤ 1099511627776) :
    Calls Tryz.prog 31 #[.string s] w fun e w' => PcsIsS w' w.heap.size (pcsR s.data.toList) e ∧ Below w.heap.size w w' := by
  have HP := hide (fun W : World => specPlain_any s W (by unfold maxLen; omega))
  go_enter Tryz.func31, Tryz.ntmps31
  go_wp2
  go_loopw [4, 5] (fun o i wr => ∃ (k : Nat) (acc : List Pce), k ≤ s.size ∧ i = .int .i64 k ∧ (allB s.data.toList [0] = false → acc = []) ∧ PcAt s.data.toList (s.data.toList.drop k) acc ∧ OwnP wr w.heap.size o acc ∧ Below w.heap.size w wr) (fun _ i _ => s.size - (intOf i).toNat)
  case atStart => exact ⟨0, [], Nat.zero_le _, rfl, fun _ => rfl, PcAt.start _, OwnP.made w w.heap.size (Nat.le_refl _), (Below.refl _ _).alloc (Nat.le_refl _) _⟩
  case round =>
    obtain ⟨k, acc, hks, rfl, hE, hA, hO, hbe⟩ := hrel
    have h60 : acc.length ≤ 60 := hA.2.1
    have HA := hide hA
    have HE := hide hE
    clear hA hE
    obtain ⟨al, cl, rfl⟩ := hO.slice
    have HO := hide hO
    have HBe := hide hbe
    clear hO hbe
    cases hpl : allB s.data.toList [0]
    · rw [hpl] at HP
      have hacc := HE.out hpl
      subst hacc
      have HR := hide (pcsR_not hpl)
      clear hpl HE
      by_cases hlt : k < s.size
      · have hlt' : (k : Int) < s.size := by omega
        go_wp2_with (go_at_call 53; refine (HP.out _).mono ?_; rintro e w1 ⟨rfl, hw⟩; obtain rfl := hw.symm)
        go_ret2
        exact ⟨pcs_retS HR.out HO.out, HBe.out⟩
      · have hlt' : ¬ (k : Int) < s.size := by omega
        go_wp2_with (go_at_call 53; refine (HP.out _).mono ?_; rintro e w1 ⟨rfl, hw⟩; obtain rfl := hw.symm)
        go_ret2
        exact ⟨pcs_retS HR.out HO.out, HBe.out⟩
    · rw [hpl] at HP
      have HPL := hide hpl
      clear hpl HE
      by_cases hlt : k < s.size
      · have hlt' : (k : Int) < s.size := by omega
        have hk0 : (0 : Int) ≤ k := by omega
        have hd := drop_cons s k hlt
        have HNE := hide (show s.data.toList.drop k ≠ [] by rw [hd]; simp)
        have HHd := hide (show (s.data.toList.drop k).head? = some s[k] by rw [hd]; rfl)
        clear hd
        by_cases hn : acc.length = 60
        · have HR := hide (HA.out.many HNE.out hn)
          have hn' : ((acc.length : Int) == 60) = true := by rw [beq_iff_eq]; omega
          clear hn
          go_wp2_with (go_at_call 53; refine (HP.out _).mono ?_; rintro e w1 ⟨rfl, hw⟩; obtain rfl := hw.symm)
          go_ret2
          exact ⟨pcs_retS HR.out (OwnP.made wr w.heap.size HBe.out.size), HBe.out.alloc HBe.out.size _⟩
        · have hn' : ((acc.length : Int) == 60) = false := by rw [beq_eq_false_iff_ne]; omega
          have hn60 : acc.length < 60 := by omega
          clear hn
          have e1 := is_u8 s[k] 60 60 rfl
          by_cases hc : s[k] = 60
          · rw [decide_eq_true hc] at e1
            have HM := hide (fun W : World => l7Mark_any s k W hlt hs hc)
            clear hc
            go_wp2_with (go_at_call 53; refine (HP.out _).mono ?_; rintro e w1 ⟨rfl, hw⟩; obtain rfl := hw.symm)
            refine (HM.out wr).mono ?_
            rintro e w2 ⟨⟨p, z, rfl, hz0, hz1⟩, b2⟩
            have c2 := HBe.out.trans (b2.mono HBe.out.size)
            have O2 := hide (HO.out.next b2)
            cases hm : markL (s.data.toList.drop k) with
            | none =>
              have hz := hz0 hm
              subst hz
              have HR := hide (HA.out.bad HNE.out hm)
              clear hm hz0 hz1
              go_wp2
              go_ret2
              have hO9 := OwnP.made (w2.alloc (Obj.cells #[.int .i64 p.k, .string p.name, .string p.ns, .bool p.has, .string p.s] 89)) w.heap.size (by have := c2.size; simp; omega)
              have hz9 : (w2.alloc (Obj.cells #[.int .i64 p.k, .string p.name, .string p.ns, .bool p.has, .string p.s] 89)).heap.size = w2.heap.size + 1 := by simp
              rw [hz9] at hO9
              exact ⟨pcs_retS HR.out hO9, (c2.alloc c2.size _).alloc (by have := c2.size; simp; omega) _⟩
            | some x =>
              obtain ⟨p', q⟩ := x
              obtain ⟨rfl, k', rfl, hkk, hks2, hq⟩ := hz1 p' q hm
              have hA2 := HA.out.step HNE.out hm hn60
              rw [← hq] at hA2
              have HA2 := hide hA2
              have O3 := hide ((O2.out.alloc (Obj.cells #[.int .i64 p.k, .string p.name, .string p.ns, .bool p.has, .string p.s] 89)).alloc (Obj.cells #[.int .i64 p.k, .string p.name, .string p.ns, .bool p.has, .string p.s] 89))
              clear hm hz0 hz1 hq hA2
              go_wp2_with (at_builtin; refine wp_append_piece rfl _ _ rfl w.heap.size _ acc rfl O3.out _ p rfl ?c0 ?c1 ?c2 ?c3 ?c4 ?c5 ?c6 ?_)
              case c0 => simp
              case c1 => simp
              case c2 => simp
              case c3 => simp
              case c4 => simp
              case c5 => omega
              case c6 => have := c2.size; simp; omega
              intro g4 cap4 w4 o4 b4 _
              have O4 := hide o4
              have B4 := hide (((c2.alloc c2.size _).alloc (by have := c2.size; simp; omega) _).trans b4)
              clear o4 b4 O3
              go_wp2
              go_roundw
              case rel => exact ⟨k', acc ++ [p], hks2, rfl, (fun h => by first | (cases h; done) | (rw [HPL.out] at h; cases h)), HA2.out, O4.out, B4.out⟩
              case measure => simp [intOf]; omega
          · rw [decide_eq_false hc] at e1
            have hmt := markL_text7 HHd.out hc
            have HMT := hide hmt
            have ha := upTo_len s 60 k hks
            have HAT := hide (fun (j : Nat) (h1 : k ≤ j) (h2 : j < s.size) (h3 : j ≤ k + (upTo 60 (s.data.toList.drop k)).length) => upTo_at s 60 k j h1 h2 h3)
            have hXt := extract_upTo s 60 k
            have hDr : s.data.toList.drop (k + (upTo 60 (s.data.toList.drop k)).length) = fromB 60 (s.data.toList.drop k) := by
              have e := upTo_from 60 (s.data.toList.drop k)
              rw [← List.drop_drop]
              generalize upTo 60 (s.data.toList.drop k) = p at e ⊢
              generalize fromB 60 (s.data.toList.drop k) = q at e ⊢
              rw [← e]
              simp
            have hpos : 0 < (upTo 60 (s.data.toList.drop k)).length := by
              cases hu : upTo 60 (s.data.toList.drop k) with
              | nil =>
                have := (upTo_at s 60 k k (Nat.le_refl _) hlt (by omega)).2 (by rw [hu]; rfl)
                exact absurd this hc
              | cons _ _ => simp
            have hm1 := ha.1
            obtain ⟨m, hm⟩ : ∃ m, k + (upTo 60 (s.data.toList.drop k)).length = m := ⟨_, rfl⟩
            have hkm : k < m := by omega
            rw [hm] at HAT hXt hDr hm1
            have hes : (s.extract k m).size ≤ 1099511627776 := by rw [ByteArray.size_extract]; omega
            have HU := hide (fun W : World => specUnescape_any (s.extract k m) W hes)
            rw [hXt] at HU
            obtain ⟨x, b, hx⟩ : ∃ x b, unescR (upTo 60 (s.data.toList.drop k)) = (x, b) := ⟨_, _, rfl⟩
            rw [hx] at HU
            obtain ⟨xb, hxb⟩ : ∃ xb, bytesOf x = xb := ⟨_, rfl⟩
            simp only [hxb] at HU
            obtain ⟨u, hu⟩ : ∃ u, s.extract k m = u := ⟨_, rfl⟩
            rw [hu] at HU
            have HXX := hide hx
            have HXB := hide hxb
            have HDr := hide hDr
            have hms' : (m : Int) ≤ s.size := by omega
            have hkm' : (k : Int) ≤ m := by omega
            clear hc hmt ha hXt hDr hpos hm hes hx hxb
            go_wp2_with (go_at_call 53; refine (HP.out _).mono ?_; rintro e w1 ⟨rfl, hw⟩; obtain rfl := hw.symm)
            go_loop [8] (fun j => ∃ q : Nat, k ≤ q ∧ q ≤ m ∧ j = .int .i64 q) (fun j => m - (intOf j).toNat)
            case atStart => exact ⟨k, Nat.le_refl _, by omega, rfl⟩
            case round =>
              obtain ⟨q, hq1, hq2, rfl⟩ := hrel
              by_cases hqm : q < m
              · have hqs : q < s.size := by omega
                have hqs' : (q : Int) < s.size := by omega
                have hq0 : (0 : Int) ≤ q := by omega
                have e4 := isn_u8 s[q] 60 60 rfl
                have hne : ¬ s[q] = 60 := fun e => by have := (HAT.out q hq1 hqs hq2).1 e; omega
                rw [decide_eq_false hne] at e4
                clear hne
                go_wp2
                go_round
                case rel => exact ⟨q + 1, by omega, by omega, by go_num⟩
                case measure => simp [intOf]; omega
              · obtain rfl : q = m := by omega
                have hstep : (unesc (upTo 60 (s.data.toList.drop k)) = none → pcsR s.data.toList = ([], false)) ∧ (∀ y, unesc (upTo 60 (s.data.toList.drop k)) = some y → PcAt s.data.toList (s.data.toList.drop q) (acc ++ [textP y])) := by
                  refine ⟨fun h => ?_, fun y h => ?_⟩
                  · exact HA.out.bad HNE.out (by rw [HMT.out]; unfold textL7; rw [h])
                  · have := HA.out.step (p := textP y) (q := fromB 60 (s.data.toList.drop k)) HNE.out (by rw [HMT.out]; unfold textL7; rw [h]) hn60
                    rwa [← HDr.out] at this
                have HST := hide hstep
                clear hstep HMT
                by_cases hqs : q < s.size
                case' pos =>
                  have hqs' : (q : Int) < s.size := by omega
                  have hq0 : (0 : Int) ≤ q := by omega
                  have e4 := isn_u8 s[q] 60 60 rfl
                  have heq : s[q] = 60 := (HAT.out q hq1 hqs hq2).2 rfl
                  rw [decide_eq_true heq] at e4
                  clear heq
                case' neg =>
                  have hqs' : ¬ (q : Int) < s.size := by omega
                all_goals
                  clear HAT
                  go_wp2_with fail
                  refine (HU.out _).mono ?_
                  rintro e w2 ⟨rfl, b2⟩
                  have c2 := HBe.out.trans (b2.mono HBe.out.size)
                  have O2 := hide (HO.out.next b2)
                  cases b
                  · have HR := hide (HST.out.1 (unescR_none HXX.out))
                    clear HST
                    go_wp2
                    go_ret2
                    exact ⟨pcs_retS HR.out (OwnP.made w2 w.heap.size c2.size), c2.alloc c2.size _⟩
                  · have HA2 := hide (HST.out.2 x (unescR_some HXX.out))
                    have HTp := hide (show textP x = ⟨4, ⟨#[]⟩, ⟨#[]⟩, false, xb⟩ by rw [← HXB.out]; rfl)
                    have O3 := hide (O2.out.alloc (Obj.cells #[.int .i64 4, .string ⟨#[]⟩, .string ⟨#[]⟩, .bool false, .string xb] 89))
                    rw [HTp.out] at HA2
                    clear HST
                    go_wp2_with (at_builtin; refine wp_append_piece rfl _ _ rfl w.heap.size _ acc rfl O3.out _ ⟨4, ⟨#[]⟩, ⟨#[]⟩, false, xb⟩ rfl ?_ ?_ ?_ ?_ ?_ ?_ ?_ ?_)
                    · omega
                    · have := c2.size; simp; omega
                    intro g4 cap4 w4 o4 b4 _
                    have O4 := hide o4
                    have B4 := hide ((c2.alloc c2.size _).trans b4)
                    clear o4 b4 O3
                    go_wp2
                    go_roundw
                    case rel => exact ⟨q, acc ++ [⟨4, ⟨#[]⟩, ⟨#[]⟩, false, xb⟩], by omega, rfl, (fun h => by first | (cases h; done) | (rw [HPL.out] at h; cases h)), HA2.out, O4.out, B4.out⟩
                    case measure => simp [intOf]; omega
      · have hlt' : ¬ (k : Int) < s.size := by omega
        have hd := HA.out
        rw [drop_none s k hlt] at hd
        have HR := hide (hd.done HPL.out)
        clear hd
        go_wp2_with (go_at_call 53; refine (HP.out _).mono ?_; rintro e w1 ⟨rfl, hw⟩; obtain rfl := hw.symm)
        go_ret2
        exact ⟨pcs_retS HR.out HO.out, HBe.out⟩
end Go.Proofs.YtccehdlgpbeijaaGreatDoor
namespace Go.Proofs.YtccehdlgpbeijaaGreatDoor
open Go.RowKit M
set_option linter.unusedVariables false

theorem emptyT {s : ByteArray} (h : s.size = 0) : s.toList.isEmpty = true := by
  rw [ByteArray.toList_eq, List.eq_nil_of_length_eq_zero (show s.data.toList.length = 0 by rw [Array.length_toList]; exact h)]; rfl
theorem emptyF {s : ByteArray} (h : ¬ s.size = 0) : s.toList.isEmpty = false := by
  rw [ByteArray.toList_eq]
  cases e : s.data.toList with
  | nil => exact absurd (show s.data.size = 0 by rw [← Array.length_toList, e]; rfl) h
  | cons a b => rfl
theorem ownN_bad {n : Nd} (h : smB n.nm.data.toList = false ∨ 20 < n.ns.size ∨ allB n.ns.data.toList [0] = false ∨ 60 < n.tx.size ∨ allB n.tx.data.toList [0] = false ∨ (¬ n.tx.size = 0 ∧ 0 < n.ks.length)) : ownN n = false := by
  unfold ownN
  rcases h with h | h | h | h | h | ⟨h, h'⟩
  · simp [h]
  · have : ¬ n.ns.size ≤ 20 := by omega
    simp [this]
  · simp [h]
  · have : ¬ n.tx.size ≤ 60 := by omega
    simp [this]
  · simp [h]
  · have : ¬ n.ks.length = 0 := by omega
    simp [h, this]
theorem ownN_good {n : Nd} (h1 : smB n.nm.data.toList = true) (h2 : ¬ 20 < n.ns.size) (h3 : allB n.ns.data.toList [0] = true) (h4 : ¬ 60 < n.tx.size) (h5 : allB n.tx.data.toList [0] = true) (h6 : n.tx.size = 0 ∨ ¬ 0 < n.ks.length) : ownN n = true := by
  unfold ownN
  have a : n.ns.size ≤ 20 := by omega
  have b : n.tx.size ≤ 60 := by omega
  rcases h6 with h6 | h6
  · simp [h1, h3, h5, a, h6]
  · have c : n.ks.length = 0 := by omega
    simp [h1, h3, h5, a, b, c]

def CntA (K : Nat) : Prop := ∀ (n : Nd) (a : Option Addr) (cap B d : Nat) (w : World), cntL n.ks < K → Nds w B a n.ks → B ≤ w.heap.size → n.short → d ≤ 5 →
    Calls Tryz.prog 38 #[.agg #[.string n.ns, .string n.nm, .string n.tx, .slice a n.ks.length cap], .int .i64 (6 - (d : Int))] w fun e w' => e = .returned (.int .i64 ((n.cS d : Nat) : Int)) ∧ Below w.heap.size w w'

set_option maxHeartbeats 4000000 in
theorem l8Count_step (K : Nat) (ih : CntA K) : CntA (K + 1) := by
  intro n a cap B d w hn h hB hs hd
  rw [short_ks] at hs
  obtain ⟨q1, q2, q3, q4, q5⟩ := hs
  have HI : Hid (CntA K) := ih
  clear ih
  have HR : Hid ((d = 0 ∨ ownN n = false) → n.cS d = 100) := fun h => by rw [cS_ks, if_pos h]
  have HC : Hid (¬ (d = 0 ∨ ownN n = false) → cSL n.ks (d - 1) 1 = n.cS d) := fun h => by rw [cS_ks, if_neg h]
  have HO := hide (@ownN_bad n)
  have HG := hide (@ownN_good n)
  generalize n.cS d = R at *
  generalize ownN n = own at *
  obtain ⟨ra, rb, rc, ks⟩ := n
  simp only [Nd.ns, Nd.nm, Nd.tx, Nd.ks] at *
  have HB0 : Hid (Below w.heap.size w (w.alloc (Obj.cells #[Value.string ra, Value.string rb, Value.string rc, Value.slice a ks.length cap] 26))) := (Below.refl _ _).alloc (Nat.le_refl _) _
  have HH := hide h
  clear h
  have z1 := q1
  have z3 := q3
  have z4 := q4
  unfold maxLen at z1 z3 z4
  by_cases h1 : d = 0
  · have hr : R = 100 := HR.out (.inl h1)
    subst hr h1
    clear HR HC HO HG
    go_enter Tryz.func38, Tryz.ntmps38
    go_wp2
    go_ret
    exact ⟨rfl, HB0.out⟩
  have HN := hide h1
  cases h2 : smB rb.data.toList
  · have hr : R = 100 := HR.out (.inr (HO.out (.inl h2)))
    subst hr
    clear HR HC
    go_enter Tryz.func38, Tryz.ntmps38
    go_wp2_with (first | (go_at_call 60; refine (specSmallName_any rb _ q2).mono ?_; rintro e w1 ⟨rfl, hw⟩; obtain rfl := hw.symm; rw [h2]))
    go_ret
    exact ⟨rfl, HB0.out⟩
  by_cases h3 : 20 < ra.size
  · have hr : R = 100 := HR.out (.inr (HO.out (.inr (.inl h3))))
    subst hr
    clear HR HC
    go_enter Tryz.func38, Tryz.ntmps38
    go_wp2_with (first | (go_at_call 60; refine (specSmallName_any rb _ q2).mono ?_; rintro e w1 ⟨rfl, hw⟩; obtain rfl := hw.symm; rw [h2]))
    go_ret
    exact ⟨rfl, HB0.out⟩
  cases h4 : allB ra.data.toList [0]
  · have hr : R = 100 := HR.out (.inr (HO.out (.inr (.inr (.inl h4)))))
    subst hr
    clear HR HC
    go_enter Tryz.func38, Tryz.ntmps38
    go_wp2_with (first | (go_at_call 60; refine (specSmallName_any rb _ q2).mono ?_; rintro e w1 ⟨rfl, hw⟩; obtain rfl := hw.symm; rw [h2]) | (go_at_call 53; refine (specPlain_any _ _ (by first | exact q1 | exact q3)).mono ?_; rintro e w1 ⟨rfl, hw⟩; obtain rfl := hw.symm; rw [h4]))
    go_ret
    exact ⟨rfl, HB0.out⟩
  by_cases h5 : 60 < rc.size
  · have hr : R = 100 := HR.out (.inr (HO.out (.inr (.inr (.inr (.inl h5))))))
    subst hr
    clear HR HC
    go_enter Tryz.func38, Tryz.ntmps38
    go_wp2_with (first | (go_at_call 60; refine (specSmallName_any rb _ q2).mono ?_; rintro e w1 ⟨rfl, hw⟩; obtain rfl := hw.symm; rw [h2]) | (go_at_call 53; refine (specPlain_any _ _ (by first | exact q1 | exact q3)).mono ?_; rintro e w1 ⟨rfl, hw⟩; obtain rfl := hw.symm; rw [h4]))
    go_ret
    exact ⟨rfl, HB0.out⟩
  cases h6 : allB rc.data.toList [0]
  · have hr : R = 100 := HR.out (.inr (HO.out (.inr (.inr (.inr (.inr (.inl h6)))))))
    subst hr
    clear HR HC
    go_enter Tryz.func38, Tryz.ntmps38
    go_wp2_with (first | (go_at_call 60; refine (specSmallName_any rb _ q2).mono ?_; rintro e w1 ⟨rfl, hw⟩; obtain rfl := hw.symm; rw [h2]) | (go_at_call 53; refine (specPlain_any _ _ (by first | exact q1 | exact q3)).mono ?_; rintro e w1 ⟨rfl, hw⟩; obtain rfl := hw.symm; first | rw [h4] | rw [h6]))
    go_ret
    exact ⟨rfl, HB0.out⟩
  by_cases h7 : ¬ rc.size = 0 ∧ 0 < ks.length
  · have h8 := emptyF h7.1
    have h9 := h7.2
    have hr : R = 100 := HR.out (.inr (HO.out (.inr (.inr (.inr (.inr (.inr h7)))))))
    subst hr
    clear HR HC
    go_enter Tryz.func38, Tryz.ntmps38
    go_wp2_with (first | (go_at_call 60; refine (specSmallName_any rb _ q2).mono ?_; rintro e w1 ⟨rfl, hw⟩; obtain rfl := hw.symm; rw [h2]) | (go_at_call 53; refine (specPlain_any _ _ (by first | exact q1 | exact q3)).mono ?_; rintro e w1 ⟨rfl, hw⟩; obtain rfl := hw.symm; first | rw [h4] | rw [h6]))
    go_ret
    exact ⟨rfl, HB0.out⟩
  have h7' : rc.size = 0 ∨ ¬ 0 < ks.length := by omega
  have hown : ¬ (d = 0 ∨ own = false) := by rw [HG.out h2 h3 h4 h5 h6 h7']; simp [HN.out]
  have HR2 := hide (HC.out hown)
  clear HC HR HO HG hown h7
  have HL : Hid (1 ≤ d) := by have := HN.out; exact (show 1 ≤ d by omega)
  have HW := hide (HH.out.stays HB0.out hB)
  have hcl : rc.toList.isEmpty = true ∨ (rc.toList.isEmpty = false ∧ ks.length = 0) := by
    by_cases e : rc.size = 0
    · exact .inl (emptyT e)
    · exact .inr ⟨emptyF e, by omega⟩
  clear h7'
  rcases hcl with h8 | ⟨h8, h9⟩
  · go_enter Tryz.func38, Tryz.ntmps38
    go_wp2_with (first | (go_at_call 60; refine (specSmallName_any rb _ q2).mono ?_; rintro e w1 ⟨rfl, hw⟩; obtain rfl := hw.symm; rw [h2]) | (go_at_call 53; refine (specPlain_any _ _ (by first | exact q1 | exact q3)).mono ?_; rintro e w1 ⟨rfl, hw⟩; obtain rfl := hw.symm; first | rw [h4] | rw [h6]))
    go_loopw [5, 6] (fun kv i wr => ∃ j k : Nat, j ≤ ks.length ∧ i = .int .i64 j ∧ kv = .int .i64 k ∧ cSL (ks.drop j) (d - 1) k = R ∧ k ≤ 220 ∧ Below (w.heap.size + 1) (w.alloc (Obj.cells #[Value.string ra, Value.string rb, Value.string rc, Value.slice a ks.length cap] 26)) wr) (fun _ i _ => ks.length - (intOf i).toNat)
    case atStart => exact ⟨0, 1, Nat.zero_le _, rfl, rfl, HR2.out, by omega, Below.refl _ _⟩
    case round =>
      obtain ⟨j, k, hj, rfl, rfl, hR, hk, hbe⟩ := hrel
      have hcell : wr.cell? ⟨w.heap.size, 3, none⟩ = some (.slice a ks.length cap) := by
        rw [hbe.cell (p := ⟨w.heap.size, 3, none⟩) (by simp)]; simp
      have hsz : w.heap.size + 1 ≤ wr.heap.size := by have := hbe.size; simpa using this
      have c0 : Below w.heap.size w wr := HB0.out.trans (hbe.mono (by omega))
      by_cases hlt : j < ks.length
      · rw [drop_at ks j hlt, cSL] at hR
        by_cases hk2 : k ≤ 20
        · rw [if_pos hk2] at hR
          have HRR := hide hR
          clear hR
          obtain ⟨b, o, rfl, hb, hc⟩ := (HH.out.stays c0 hB).at (by omega)
          obtain ⟨ak, ck, hx0, hx1, hx2, hx3, hkx⟩ := hc j hlt
          clear hc
          have hcn : cntL (ks[j]).ks < K := by have := cntL_at ks j hlt; omega
          have hl1 := hide (cS_le ks[j] (d - 1))
          have hq := HI.out ks[j] ak ck B (d - 1) wr hcn hkx (Nat.le_trans hB c0.size) (shortK_at ks q5 j hlt) (by omega)
          have hde : (6 - ((d - 1 : Nat) : Int)) = 6 - (d : Int) + 1 := by have := HL.out; omega
          rw [hde] at hq
          clear hde
          generalize (ks[j]).cS (d - 1) = c at *
          go_wp2_with fail
          refine hq.mono ?_
          rintro e w1 ⟨rfl, hb1⟩
          have c1 : Below (w.heap.size + 1) _ w1 := hbe.trans (hb1.mono hsz)
          have hc2 : c ≤ 200 := by have := hl1.out; omega
          go_wp2
          go_roundw
          case rel => exact ⟨j + 1, k + c, by omega, by go_num, by go_num, HRR.out, by omega, c1⟩
          case measure => simp [intOf]; omega
        · rw [if_neg hk2] at hR
          subst hR
          go_wp2
          go_ret
          exact ⟨rfl, c0⟩
      · rw [List.drop_of_length_le (by omega), cSL] at hR
        subst hR
        go_wp2
        go_ret
        exact ⟨rfl, c0⟩
  · have hks : ks = [] := List.eq_nil_of_length_eq_zero h9
    subst hks
    have hR : R = 1 := by have := HR2.out; simpa [cSL] using this.symm
    subst hR
    simp only [List.length_nil] at HB0 HW ⊢
    clear h9 z4 q4
    go_enter Tryz.func38, Tryz.ntmps38
    go_wp2_with (first | (go_at_call 60; refine (specSmallName_any rb _ q2).mono ?_; rintro e w1 ⟨rfl, hw⟩; obtain rfl := hw.symm; rw [h2]) | (go_at_call 53; refine (specPlain_any _ _ (by first | exact q1 | exact q3)).mono ?_; rintro e w1 ⟨rfl, hw⟩; obtain rfl := hw.symm; first | rw [h4] | rw [h6]))
    go_loopw [5, 6] (fun kv i wr => i = .int .i64 0 ∧ kv = .int .i64 1 ∧ Below (w.heap.size + 1) (w.alloc (Obj.cells #[Value.string ra, Value.string rb, Value.string rc, Value.slice a 0 cap] 26)) wr) (fun _ _ _ => 0)
    case atStart => exact ⟨rfl, rfl, Below.refl _ _⟩
    case round =>
      obtain ⟨rfl, rfl, hbe⟩ := hrel
      have hcell : wr.cell? ⟨w.heap.size, 3, none⟩ = some (.slice a 0 cap) := by
        rw [hbe.cell (p := ⟨w.heap.size, 3, none⟩) (by simp)]; simp
      have c0 : Below w.heap.size w wr := HB0.out.trans (hbe.mono (by omega))
      go_wp2
      go_ret
      exact ⟨rfl, c0⟩

theorem l8Count_all : ∀ K, CntA K := by
  intro K
  induction K with
  | zero => intro n a cap B d w hn; exact absurd hn (Nat.not_lt_zero _)
  | succ K ih => exact l8Count_step K ih

theorem specNodeOk_any (n : Nd) (a : Option Addr) (cap B : Nat) (w : World) (h : Nds w B a n.ks) (hB : B ≤ w.heap.size) (hs : n.short) :
    Calls Tryz.prog 16 #[.agg #[.string n.ns, .string n.nm, .string n.tx, .slice a n.ks.length cap]] w fun e w' => e = .returned (.bool (nodeB n)) ∧ Below w.heap.size w w' := by
  have hb0 : Below w.heap.size w (w.alloc (Obj.cells #[Value.string n.ns, Value.string n.nm, Value.string n.tx, Value.slice a n.ks.length cap] 26)) := (Below.refl _ _).alloc (Nat.le_refl _) _
  have hq := l8Count_all (cntL n.ks + 1) n a cap B 5 _ (Nat.lt_succ_self _) (h.stays hb0 hB) (Nat.le_trans hB hb0.size) hs (by omega)
  have e1 : (6 - ((5 : Nat) : Int)) = 1 := by decide
  rw [e1] at hq
  have hle := cS_le n 5
  unfold nodeB
  generalize n.cS 5 = c at *
  by_cases hc : c ≤ 20
  · go_enter Tryz.func16, Tryz.ntmps16
    go_wp2_with fail
    refine hq.mono ?_
    rintro e w1 ⟨rfl, hb1⟩
    have c1 := hb0.trans (hb1.mono hb0.size)
    go_wp2
    go_ret
    exact ⟨by simp [hc]; omega, c1⟩
  · go_enter Tryz.func16, Tryz.ntmps16
    go_wp2_with fail
    refine hq.mono ?_
    rintro e w1 ⟨rfl, hb1⟩
    have c1 := hb0.trans (hb1.mono hb0.size)
    go_wp2
    go_ret
    exact ⟨by simp [hc]; omega, c1⟩

end Go.Proofs.YtccehdlgpbeijaaGreatDoor
namespace Go.Proofs.YtccehdlgpbeijaaGreatDoor
open M

theorem markL_text {l q : List UInt8} {p : Pce} (h : markL l = some (p, q)) : p.s.size ≤ l.length := by
  unfold markL at h
  split at h
  · unfold closeL at h
    split at h
    · obtain ⟨rfl, _⟩ := Prod.mk.inj (Option.some.inj h)
      exact Nat.zero_le _
    · cases h
  split at h
  · unfold openL at h
    split at h
    · split at h
      · unfold endM at h
        split at h
        · obtain ⟨rfl, _⟩ := Prod.mk.inj (Option.some.inj h)
          exact Nat.zero_le _
        split at h
        · obtain ⟨rfl, _⟩ := Prod.mk.inj (Option.some.inj h)
          exact Nat.zero_le _
        · cases h
      · cases h
    · cases h
  · unfold textL7 at h
    split at h
    · rename_i t ht
      obtain ⟨rfl, _⟩ := Prod.mk.inj (Option.some.inj h)
      have h1 := unesc_le _ _ ht
      have h2 := congrArg List.length (upTo_from 60 l)
      rw [List.length_append] at h2
      show (bytesOf t).size ≤ l.length
      rw [bytesOf_size]
      omega
    · cases h
theorem pcsL_text : ∀ (k : Nat) (l : List UInt8) (ps : List Pce), l.length ≤ k → pcsL l = some ps → ∀ p ∈ ps, p.s.size ≤ l.length := by
  intro k
  induction k with
  | zero =>
    intro l ps hl h
    have : l = [] := List.length_eq_zero_iff.1 (by omega)
    subst this
    rw [pcsL_nil] at h
    cases h
    simp
  | succ k ih =>
    intro l ps hl h
    by_cases h0 : l = []
    · subst h0
      rw [pcsL_nil] at h
      cases h
      simp
    · cases hm : markL l with
      | none => rw [pcsL_none h0 hm] at h; cases h
      | some x =>
        obtain ⟨p, q⟩ := x
        rw [pcsL_some h0 hm] at h
        have e1 := markL_lt h0 hm
        cases hq : pcsL q with
        | none => rw [hq] at h; cases h
        | some qs =>
          rw [hq] at h
          cases h
          intro y hy
          rcases List.mem_cons.1 hy with rfl | hy
          · exact markL_text hm
          · have := ih q qs (by omega) hq y hy
            omega
theorem pcsR_text (l : List UInt8) : ∀ p ∈ (pcsR l).1, p.s.size ≤ l.length := by
  unfold pcsR
  split
  · split
    · rename_i ps h
      split
      · exact pcsL_text _ l ps (Nat.le_refl _) h
      · simp
    · simp
  · simp
end Go.Proofs.YtccehdlgpbeijaaGreatDoor
namespace Go.Proofs.YtccehdlgpbeijaaGreatDoor
open Go.RowKit M

set_option maxHeartbeats 400000 in
theorem allOf_any (s : ByteArray) (ks : List Int) (n b o cap : Nat) (w : World) (hn : ks.length = n) (hs : s.size ≤ maxLen) (hl : ks.length ≤ maxLen)
    (hc : ∀ i, i < ks.length → w.cell? ⟨b, o + i, none⟩ = some (.int .i64 (ks.getD i 0))) :
    Calls Tryz.prog 85 #[.string s, .slice (some ⟨b, o, none⟩) n cap] w fun e w' => e = .returned (.bool (allB s.data.toList ks)) ∧ w' = w := by
  subst hn
  unfold maxLen at hs
  have HC : Hid (∀ i, i < ks.length → w.cell? ⟨b, o + i, none⟩ = some (.int .i64 (ks.getD i 0))) := hc
  clear hc
  go_enter Tryz.func85, Tryz.ntmps85
  go_wp2
  go_loop [5] (fun i => ∃ k : Nat, k ≤ s.size ∧ i = .int .i64 k ∧ allB (s.data.toList.take k) ks = true) (fun i => s.size - (intOf i).toNat)
  case atStart => exact ⟨0, Nat.zero_le _, rfl, rfl⟩
  case round =>
    obtain ⟨k, hk, rfl, hn⟩ := hrel
    have HN : Hid (allB (s.data.toList.take k) ks = true) := hn; clear hn
    by_cases hlt : k < s.size
    · go_wp2_with (go_at_call 90; refine (isOneOf_any _ ks _ b o cap _ rfl hl HC.out).mono ?_; rintro e w' ⟨rfl, rfl⟩)
      · go_ret
        exact ⟨ret_bool (by rw [allB_not s ks k hlt (by assumption)]), rfl⟩
      · go_round
        case rel => exact ⟨k + 1, by omega, by go_num, allB_snoc s ks k hlt HN.out (by assumption)⟩
        case measure => simp [intOf]; omega
    · go_wp2
      go_ret
      exact ⟨ret_bool (by rw [← HN.out, take_all s k hlt]), rfl⟩
end Go.Proofs.YtccehdlgpbeijaaGreatDoor
namespace Go.Proofs.YtccehdlgpbeijaaGreatDoor
open Go.RowKit M

set_option maxHeartbeats 400000 in
theorem plain_any (s : ByteArray) (w : World) (hs : s.size ≤ maxLen) :
    Calls Tryz.prog 68 #[.string s] w fun e w' => e = .returned (.bool (allB s.data.toList [0])) ∧ Below w.heap.size w w' := by
  go_enter Tryz.func68, Tryz.ntmps68
  go_wp2_with (go_at_call 85; refine (allOf_any s [0] 1 _ 0 1 _ rfl hs (by decide) ?_).mono ?_)
  · intro i hi
    have : i = 0 := by simp at hi; omega
    subst this
    simp
  · rintro e w' ⟨rfl, rfl⟩
    go_wp2
    go_ret
    exact ⟨rfl, (Below.refl _ _).alloc (Nat.le_refl _) _⟩
end Go.Proofs.YtccehdlgpbeijaaGreatDoor
namespace Go.Proofs.YtccehdlgpbeijaaGreatDoor
open Go.RowKit M

set_option maxHeartbeats 400000 in
theorem smallName_any (s : ByteArray) (w : World) (hs : s.size ≤ maxLen) :
    Calls Tryz.prog 81 #[.string s] w fun e w' => e = .returned (.bool (smB s.data.toList)) ∧ Below w.heap.size w w' := by
  have hs' := hs
  unfold maxLen at hs'
  by_cases h0 : s.size < 1
  · have := smB_long s (.inl h0)
    have H : Hid (smB s.data.toList = false) := this
    clear this
    go_enter Tryz.func81, Tryz.ntmps81
    go_wp2
    go_ret
    exact ⟨ret_bool H.out.symm, Below.refl _ _⟩
  · by_cases h20 : 20 < s.size
    · have H : Hid (smB s.data.toList = false) := smB_long s (.inr h20)
      go_enter Tryz.func81, Tryz.ntmps81
      go_wp2
      go_ret
      exact ⟨ret_bool H.out.symm, Below.refl _ _⟩
    · have h1 : 0 < s.size := by omega
      have H : Hid (smB s.data.toList = (isB ((s[0]).toNat : Int) 2 && allB s.data.toList [2, 4, 7])) := smB_impl s h1 (by omega)
      cases hsm : isB ((s[0]).toNat : Int) 2
      · go_enter Tryz.func81, Tryz.ntmps81
        go_wp2_with (go_at_call 90; refine (isOneOf_any _ [2] 1 _ 0 1 _ rfl (by decide) (cells1 w 2 121)).mono ?_; rintro e w' ⟨rfl, rfl⟩; rw [anyB_one, hsm])
        go_ret
        exact ⟨ret_bool (by rw [H.out, hsm]; rfl), (Below.refl _ _).alloc (Nat.le_refl _) _⟩
      · go_enter Tryz.func81, Tryz.ntmps81
        go_wp2_with (first | (go_at_call 90; refine (isOneOf_any _ [2] 1 _ 0 1 _ rfl (by decide) (cells1 w 2 121)).mono ?_; rintro e w' ⟨rfl, rfl⟩; rw [anyB_one, hsm]) | (go_at_call 85; refine (allOf_any s [2, 4, 7] 3 _ 0 3 _ rfl hs (by decide) ?c1).mono ?_; rotate_left; rintro e w' ⟨rfl, rfl⟩))
        case c1 => exact cells3 _ _ 2 4 7 121 (by simp)
        go_ret
        exact ⟨ret_bool (by rw [H.out, hsm]; rfl), ((Below.refl _ _).alloc (Nat.le_refl _) _).alloc (by simp) _⟩
end Go.Proofs.YtccehdlgpbeijaaGreatDoor
namespace Go.Proofs.YtccehdlgpbeijaaGreatDoor
open Go.RowKit M
set_option linter.unusedVariables false

set_option maxHeartbeats 4000000 in
theorem ownPartsOk_any (n : Nd) (a : Option Addr) (cap : Nat) (w : World) (q1 : n.ns.size ≤ maxLen) (q2 : n.nm.size ≤ maxLen) (q3 : n.tx.size ≤ maxLen) (q4 : n.ks.length ≤ maxLen) :
    Calls Tryz.prog 59 #[.agg #[.string n.ns, .string n.nm, .string n.tx, .slice a n.ks.length cap]] w fun e w' => e = .returned (.bool (ownN n)) ∧ Below w.heap.size w w' := by
  have HO := hide (@ownN_bad n)
  have HG := hide (@ownN_good n)
  have HX := hide (BoxN.made w a cap n 26)
  generalize ownN n = own at *
  obtain ⟨ra, rb, rc, ks⟩ := n
  simp only [Nd.ns, Nd.nm, Nd.tx, Nd.ks] at *
  have HB0 : Hid (Below w.heap.size w (w.alloc (Obj.cells #[Value.string ra, Value.string rb, Value.string rc, Value.slice a ks.length cap] 26))) := (Below.refl _ _).alloc (Nat.le_refl _) _
  have z1 := q1
  have z3 := q3
  have z4 := q4
  unfold maxLen at z1 z3 z4
  have hz0 : w.heap.size < (w.alloc (Obj.cells #[Value.string ra, Value.string rb, Value.string rc, Value.slice a ks.length cap] 26)).heap.size := by simp
  cases h4 : allB ra.data.toList [0]
  · have hr : own = false := HO.out (.inr (.inr (.inl h4)))
    subst hr
    clear HO HG
    go_enter Tryz.func59, Tryz.ntmps59
    go_wp2_with fail
    refine (plain_any ra _ q1).mono ?_
    rintro e w1 ⟨rfl, b1⟩
    rw [h4]
    have c1 := HB0.out.trans (b1.mono HB0.out.size)
    have X1 := hide (HX.out.next b1)
    have y10 := X1.out.c0
    have y11 := X1.out.c1
    have y12 := X1.out.c2
    have y13 := X1.out.c3
    simp only [Nd.ns, Nd.nm, Nd.tx, Nd.ks] at y10 y11 y12 y13
    clear b1
    go_wp2
    go_ret
    exact ⟨rfl, c1⟩
  by_cases h3 : 20 < ra.size
  · have hr : own = false := HO.out (.inr (.inl h3))
    subst hr
    clear HO HG
    go_enter Tryz.func59, Tryz.ntmps59
    go_wp2_with fail
    refine (plain_any ra _ q1).mono ?_
    rintro e w1 ⟨rfl, b1⟩
    rw [h4]
    have c1 := HB0.out.trans (b1.mono HB0.out.size)
    have X1 := hide (HX.out.next b1)
    have y10 := X1.out.c0
    have y11 := X1.out.c1
    have y12 := X1.out.c2
    have y13 := X1.out.c3
    simp only [Nd.ns, Nd.nm, Nd.tx, Nd.ks] at y10 y11 y12 y13
    clear b1
    go_wp2
    go_ret
    exact ⟨rfl, c1⟩
  cases h2 : smB rb.data.toList
  · have hr : own = false := HO.out (.inl h2)
    subst hr
    clear HO HG
    go_enter Tryz.func59, Tryz.ntmps59
    go_wp2_with fail
    refine (plain_any ra _ q1).mono ?_
    rintro e w1 ⟨rfl, b1⟩
    rw [h4]
    have c1 := HB0.out.trans (b1.mono HB0.out.size)
    have X1 := hide (HX.out.next b1)
    have y10 := X1.out.c0
    have y11 := X1.out.c1
    have y12 := X1.out.c2
    have y13 := X1.out.c3
    simp only [Nd.ns, Nd.nm, Nd.tx, Nd.ks] at y10 y11 y12 y13
    clear b1
    go_wp2_with fail
    refine (smallName_any rb _ q2).mono ?_
    rintro e w2 ⟨rfl, b2⟩
    rw [h2]
    have c2 := c1.trans (b2.mono c1.size)
    have X2 := hide (X1.out.next b2)
    have y20 := X2.out.c0
    have y21 := X2.out.c1
    have y22 := X2.out.c2
    have y23 := X2.out.c3
    simp only [Nd.ns, Nd.nm, Nd.tx, Nd.ks] at y20 y21 y22 y23
    clear b2
    clear y10 y11 y12 y13
    go_wp2
    go_ret
    exact ⟨rfl, c2⟩
  cases h6 : allB rc.data.toList [0]
  · have hr : own = false := HO.out (.inr (.inr (.inr (.inr (.inl h6)))))
    subst hr
    clear HO HG
    go_enter Tryz.func59, Tryz.ntmps59
    go_wp2_with fail
    refine (plain_any ra _ q1).mono ?_
    rintro e w1 ⟨rfl, b1⟩
    rw [h4]
    have c1 := HB0.out.trans (b1.mono HB0.out.size)
    have X1 := hide (HX.out.next b1)
    have y10 := X1.out.c0
    have y11 := X1.out.c1
    have y12 := X1.out.c2
    have y13 := X1.out.c3
    simp only [Nd.ns, Nd.nm, Nd.tx, Nd.ks] at y10 y11 y12 y13
    clear b1
    go_wp2_with fail
    refine (smallName_any rb _ q2).mono ?_
    rintro e w2 ⟨rfl, b2⟩
    rw [h2]
    have c2 := c1.trans (b2.mono c1.size)
    have X2 := hide (X1.out.next b2)
    have y20 := X2.out.c0
    have y21 := X2.out.c1
    have y22 := X2.out.c2
    have y23 := X2.out.c3
    simp only [Nd.ns, Nd.nm, Nd.tx, Nd.ks] at y20 y21 y22 y23
    clear b2
    clear y10 y11 y12 y13
    go_wp2_with fail
    refine (plain_any rc _ q3).mono ?_
    rintro e w3 ⟨rfl, b3⟩
    rw [h6]
    have c3 := c2.trans (b3.mono c2.size)
    have X3 := hide (X2.out.next b3)
    have y30 := X3.out.c0
    have y31 := X3.out.c1
    have y32 := X3.out.c2
    have y33 := X3.out.c3
    simp only [Nd.ns, Nd.nm, Nd.tx, Nd.ks] at y30 y31 y32 y33
    clear b3
    clear y20 y21 y22 y23
    go_wp2
    go_ret
    exact ⟨rfl, c3⟩
  by_cases h5 : 60 < rc.size
  · have hr : own = false := HO.out (.inr (.inr (.inr (.inl h5))))
    subst hr
    clear HO HG
    go_enter Tryz.func59, Tryz.ntmps59
    go_wp2_with fail
    refine (plain_any ra _ q1).mono ?_
    rintro e w1 ⟨rfl, b1⟩
    rw [h4]
    have c1 := HB0.out.trans (b1.mono HB0.out.size)
    have X1 := hide (HX.out.next b1)
    have y10 := X1.out.c0
    have y11 := X1.out.c1
    have y12 := X1.out.c2
    have y13 := X1.out.c3
    simp only [Nd.ns, Nd.nm, Nd.tx, Nd.ks] at y10 y11 y12 y13
    clear b1
    go_wp2_with fail
    refine (smallName_any rb _ q2).mono ?_
    rintro e w2 ⟨rfl, b2⟩
    rw [h2]
    have c2 := c1.trans (b2.mono c1.size)
    have X2 := hide (X1.out.next b2)
    have y20 := X2.out.c0
    have y21 := X2.out.c1
    have y22 := X2.out.c2
    have y23 := X2.out.c3
    simp only [Nd.ns, Nd.nm, Nd.tx, Nd.ks] at y20 y21 y22 y23
    clear b2
    clear y10 y11 y12 y13
    go_wp2_with fail
    refine (plain_any rc _ q3).mono ?_
    rintro e w3 ⟨rfl, b3⟩
    rw [h6]
    have c3 := c2.trans (b3.mono c2.size)
    have X3 := hide (X2.out.next b3)
    have y30 := X3.out.c0
    have y31 := X3.out.c1
    have y32 := X3.out.c2
    have y33 := X3.out.c3
    simp only [Nd.ns, Nd.nm, Nd.tx, Nd.ks] at y30 y31 y32 y33
    clear b3
    clear y20 y21 y22 y23
    go_wp2
    go_ret
    exact ⟨rfl, c3⟩
  by_cases h7 : rc.size = 0
  · have hr : own = true := HG.out h2 h3 h4 h5 h6 (.inl h7)
    subst hr
    have h8 := emptyT h7
    clear HO HG h7
    go_enter Tryz.func59, Tryz.ntmps59
    go_wp2_with fail
    refine (plain_any ra _ q1).mono ?_
    rintro e w1 ⟨rfl, b1⟩
    rw [h4]
    have c1 := HB0.out.trans (b1.mono HB0.out.size)
    have X1 := hide (HX.out.next b1)
    have y10 := X1.out.c0
    have y11 := X1.out.c1
    have y12 := X1.out.c2
    have y13 := X1.out.c3
    simp only [Nd.ns, Nd.nm, Nd.tx, Nd.ks] at y10 y11 y12 y13
    clear b1
    go_wp2_with fail
    refine (smallName_any rb _ q2).mono ?_
    rintro e w2 ⟨rfl, b2⟩
    rw [h2]
    have c2 := c1.trans (b2.mono c1.size)
    have X2 := hide (X1.out.next b2)
    have y20 := X2.out.c0
    have y21 := X2.out.c1
    have y22 := X2.out.c2
    have y23 := X2.out.c3
    simp only [Nd.ns, Nd.nm, Nd.tx, Nd.ks] at y20 y21 y22 y23
    clear b2
    clear y10 y11 y12 y13
    go_wp2_with fail
    refine (plain_any rc _ q3).mono ?_
    rintro e w3 ⟨rfl, b3⟩
    rw [h6]
    have c3 := c2.trans (b3.mono c2.size)
    have X3 := hide (X2.out.next b3)
    have y30 := X3.out.c0
    have y31 := X3.out.c1
    have y32 := X3.out.c2
    have y33 := X3.out.c3
    simp only [Nd.ns, Nd.nm, Nd.tx, Nd.ks] at y30 y31 y32 y33
    clear b3
    clear y20 y21 y22 y23
    go_wp2
    go_ret
    exact ⟨rfl, c3⟩
  by_cases h9 : 0 < ks.length
  · have hr : own = false := HO.out (.inr (.inr (.inr (.inr (.inr ⟨h7, h9⟩)))))
    subst hr
    have h8 := emptyF h7
    clear HO HG h7
    go_enter Tryz.func59, Tryz.ntmps59
    go_wp2_with fail
    refine (plain_any ra _ q1).mono ?_
    rintro e w1 ⟨rfl, b1⟩
    rw [h4]
    have c1 := HB0.out.trans (b1.mono HB0.out.size)
    have X1 := hide (HX.out.next b1)
    have y10 := X1.out.c0
    have y11 := X1.out.c1
    have y12 := X1.out.c2
    have y13 := X1.out.c3
    simp only [Nd.ns, Nd.nm, Nd.tx, Nd.ks] at y10 y11 y12 y13
    clear b1
    go_wp2_with fail
    refine (smallName_any rb _ q2).mono ?_
    rintro e w2 ⟨rfl, b2⟩
    rw [h2]
    have c2 := c1.trans (b2.mono c1.size)
    have X2 := hide (X1.out.next b2)
    have y20 := X2.out.c0
    have y21 := X2.out.c1
    have y22 := X2.out.c2
    have y23 := X2.out.c3
    simp only [Nd.ns, Nd.nm, Nd.tx, Nd.ks] at y20 y21 y22 y23
    clear b2
    clear y10 y11 y12 y13
    go_wp2_with fail
    refine (plain_any rc _ q3).mono ?_
    rintro e w3 ⟨rfl, b3⟩
    rw [h6]
    have c3 := c2.trans (b3.mono c2.size)
    have X3 := hide (X2.out.next b3)
    have y30 := X3.out.c0
    have y31 := X3.out.c1
    have y32 := X3.out.c2
    have y33 := X3.out.c3
    simp only [Nd.ns, Nd.nm, Nd.tx, Nd.ks] at y30 y31 y32 y33
    clear b3
    clear y20 y21 y22 y23
    go_wp2
    go_ret
    exact ⟨ret_bool (by rw [beq_eq_false_iff_ne]; omega), c3⟩
  have hr : own = true := HG.out h2 h3 h4 h5 h6 (.inr h9)
  subst hr
  have h8 := emptyF h7
  have h9' : Hid (ks.length = 0) := (by omega : ks.length = 0)
  clear HO HG h7 h9
  go_enter Tryz.func59, Tryz.ntmps59
  go_wp2_with fail
  refine (plain_any ra _ q1).mono ?_
  rintro e w1 ⟨rfl, b1⟩
  rw [h4]
  have c1 := HB0.out.trans (b1.mono HB0.out.size)
  have X1 := hide (HX.out.next b1)
  have y10 := X1.out.c0
  have y11 := X1.out.c1
  have y12 := X1.out.c2
  have y13 := X1.out.c3
  simp only [Nd.ns, Nd.nm, Nd.tx, Nd.ks] at y10 y11 y12 y13
  clear b1
  go_wp2_with fail
  refine (smallName_any rb _ q2).mono ?_
  rintro e w2 ⟨rfl, b2⟩
  rw [h2]
  have c2 := c1.trans (b2.mono c1.size)
  have X2 := hide (X1.out.next b2)
  have y20 := X2.out.c0
  have y21 := X2.out.c1
  have y22 := X2.out.c2
  have y23 := X2.out.c3
  simp only [Nd.ns, Nd.nm, Nd.tx, Nd.ks] at y20 y21 y22 y23
  clear b2
  clear y10 y11 y12 y13
  go_wp2_with fail
  refine (plain_any rc _ q3).mono ?_
  rintro e w3 ⟨rfl, b3⟩
  rw [h6]
  have c3 := c2.trans (b3.mono c2.size)
  have X3 := hide (X2.out.next b3)
  have y30 := X3.out.c0
  have y31 := X3.out.c1
  have y32 := X3.out.c2
  have y33 := X3.out.c3
  simp only [Nd.ns, Nd.nm, Nd.tx, Nd.ks] at y30 y31 y32 y33
  clear b3
  clear y20 y21 y22 y23
  go_wp2
  go_ret
  exact ⟨ret_bool (by simp [h9'.out]), c3⟩

/-- What is told of how many there may still be. -/
def nOut : Option Nat → Value
  | none => .tuple #[.int .i64 0, .bool false]
  | some x => .tuple #[.int .i64 (x : Int), .bool true]

def NOk (K : Nat) : Prop := ∀ (n : Nd) (a : Option Addr) (cap B d l : Nat) (w : World), cntL n.ks < K → Nds w B a n.ks → B ≤ w.heap.size → n.short → d ≤ 5 → l ≤ 20 →
    Calls Tryz.prog 37 #[.agg #[.string n.ns, .string n.nm, .string n.tx, .slice a n.ks.length cap], .int .i64 (d : Int), .int .i64 (l : Int)] w fun e w' => e = .returned (nOut (n.iS d l)) ∧ Below w.heap.size w w'

theorem iSL_le : ∀ (r : List Nd) (d l x : Nat), l ≤ 20 → iSL r d l = some x → x ≤ l := fun r d l x h e => by
  rw [iSL_cSL r d l 0 (by omega)] at e
  have := cSL_ge r d 0
  split at e
  · cases e; omega
  · cases e

set_option maxHeartbeats 4000000 in
theorem nodesOk_step (K : Nat) (ih : NOk K) : NOk (K + 1) := by
  intro n a cap B d l w hn h hB hs hd hl
  have hs' := hs
  rw [short_ks] at hs
  obtain ⟨q1, q2, q3, q4, q5⟩ := hs
  have HI : Hid (NOk K) := ih
  clear ih
  have HR : Hid ((d = 0 ∨ l = 0 ∨ ownN n = false) → n.iS d l = none) := fun h => by rw [iS_ks, if_pos h]
  have HC : Hid (¬ (d = 0 ∨ l = 0 ∨ ownN n = false) → iSL n.ks (d - 1) (l - 1) = n.iS d l) := fun h => by rw [iS_ks, if_neg h]
  have HX := hide (BoxN.made w a cap n 26)
  have hop := fun W : World => ownPartsOk_any n a cap W q1 q2 q3 q4
  have HOP := hide hop
  clear hop
  generalize n.iS d l = R at *
  generalize ownN n = own at *
  obtain ⟨ra, rb, rc, ks⟩ := n
  simp only [Nd.ns, Nd.nm, Nd.tx, Nd.ks] at *
  have HB0 : Hid (Below w.heap.size w (w.alloc (Obj.cells #[Value.string ra, Value.string rb, Value.string rc, Value.slice a ks.length cap] 26))) := (Below.refl _ _).alloc (Nat.le_refl _) _
  have HH := hide h
  clear h hs'
  have z4 := q4
  unfold maxLen at z4
  by_cases h1 : d = 0
  · have hr : R = none := HR.out (.inl h1)
    subst hr h1
    clear HR HC
    go_enter Tryz.func37, Tryz.ntmps37
    go_wp2
    refine bodyPost_ret (v := .tuple #[.int .i64 0, .bool false]) (by simp [results, Tryz.results37, go_sem]) rfl ⟨rfl, HB0.out⟩
  by_cases h2 : l = 0
  · have hr : R = none := HR.out (.inr (.inl h2))
    subst hr h2
    clear HR HC
    go_enter Tryz.func37, Tryz.ntmps37
    go_wp2
    refine bodyPost_ret (v := .tuple #[.int .i64 0, .bool false]) (by simp [results, Tryz.results37, go_sem]) rfl ⟨rfl, HB0.out⟩
  cases own with
  | false =>
    have hr : R = none := HR.out (.inr (.inr rfl))
    subst hr
    clear HR HC
    go_enter Tryz.func37, Tryz.ntmps37
    go_wp2_with fail
    refine (HOP.out _).mono ?_
    rintro e w1 ⟨rfl, b1⟩
    have c1 := HB0.out.trans (b1.mono HB0.out.size)
    go_wp2
    refine bodyPost_ret (v := .tuple #[.int .i64 0, .bool false]) (by simp [results, Tryz.results37, go_sem]) rfl ⟨rfl, c1⟩
  | true =>
    have HR2 := hide (HC.out (by simp [h1, h2]))
    clear HR HC
    have h1b : ((d : Int) == 0) = false := by simp; omega
    have h2b : ((l : Int) == 0) = false := by simp; omega
    go_enter Tryz.func37, Tryz.ntmps37
    go_wp2_with fail
    refine (HOP.out _).mono ?_
    rintro e w1 ⟨rfl, b1⟩
    have c1 := HB0.out.trans (b1.mono HB0.out.size)
    have y3 := (HX.out.next b1).c3
    simp only [Nd.ks] at y3
    go_wp2
    go_loopw [2, 8, 27] (fun lv ov i wr => ∃ j l' : Nat, j ≤ ks.length ∧ i = .int .i64 j ∧ lv = .int .i64 l' ∧ ov = .bool true ∧ iSL (ks.drop j) (d - 1) l' = R ∧ l' ≤ 20 ∧ Below w.heap.size w wr) (fun _ _ i _ => ks.length - (intOf i).toNat)
    case atStart => exact ⟨0, l - 1, Nat.zero_le _, rfl, by congr 1; omega, rfl, HR2.out, by omega, c1⟩
    case round =>
      obtain ⟨j, l', hj, rfl, rfl, rfl, hR, hl', hbe⟩ := hrel
      by_cases hlt : j < ks.length
      · rw [drop_at ks j hlt, iSL] at hR
        have HRR := hide hR
        clear hR
        obtain ⟨b, o, rfl, hb, hc⟩ := (HH.out.stays hbe hB).at (by omega)
        obtain ⟨ak, ck, hx0, hx1, hx2, hx3, hkx⟩ := hc j hlt
        clear hc
        have hcn : cntL (ks[j]).ks < K := by have := cntL_at ks j hlt; omega
        have hba := (Below.refl wr.heap.size wr).alloc (Nat.le_refl _) (Obj.cells #[.string (ks[j]).ns, .string (ks[j]).nm, .string (ks[j]).tx, .slice ak (ks[j]).ks.length ck] 26)
        have hq := HI.out ks[j] ak ck B (d - 1) l' _ hcn (hkx.stays hba (Nat.le_trans hB hbe.size)) (Nat.le_trans (Nat.le_trans hB hbe.size) hba.size) (shortK_at ks q5 j hlt) (by omega) hl'
        have hde : (((d - 1 : Nat)) : Int) = (d : Int) - 1 := by omega
        rw [hde] at hq
        clear hde
        have HLE : Hid (∀ x, (ks[j]).iS (d - 1) l' = some x → x ≤ 20) := fun x e => by
          have := iSL_le [ks[j]] (d - 1) l' x hl' (by rw [iSL, e]; rfl)
          omega
        have HBA := hide hba
        clear hba
        generalize (ks[j]).iS (d - 1) l' = r at *
        cases r with
        | none =>
          have hr := HRR.out
          simp only at hr
          subst hr
          go_wp2_with fail
          refine hq.mono ?_
          rintro e w2 ⟨rfl, hb2⟩
          have c2 := hbe.trans ((HBA.out.trans (hb2.mono HBA.out.size)).mono hbe.size)
          simp only [nOut]
          go_wp2
          refine bodyPost_ret (v := .tuple #[.int .i64 0, .bool false]) (by simp [results, Tryz.results37, go_sem]) rfl ⟨rfl, c2⟩
        | some x =>
          have hx20 := HLE.out x rfl
          go_wp2_with fail
          refine hq.mono ?_
          rintro e w2 ⟨rfl, hb2⟩
          have c2 := hbe.trans ((HBA.out.trans (hb2.mono HBA.out.size)).mono hbe.size)
          simp only [nOut]
          go_wp2
          go_roundw
          case rel => exact ⟨j + 1, x, by omega, by go_num, rfl, rfl, HRR.out, hx20, c2⟩
          case measure => simp [intOf]; omega
      · rw [List.drop_of_length_le (by omega), iSL] at hR
        subst hR
        go_wp2
        refine bodyPost_ret (v := .tuple #[.int .i64 (l' : Int), .bool true]) (by simp [results, Tryz.results37, go_sem]) rfl ⟨rfl, hbe⟩

theorem nodesOk_all : ∀ K, NOk K := by
  intro K
  induction K with
  | zero => intro n a cap B d l w hn; exact absurd hn (Nat.not_lt_zero _)
  | succ K ih => exact nodesOk_step K ih

theorem nodeOk_any (n : Nd) (a : Option Addr) (cap B : Nat) (w : World) (h : Nds w B a n.ks) (hB : B ≤ w.heap.size) (hs : n.short) :
    Calls Tryz.prog 15 #[.agg #[.string n.ns, .string n.nm, .string n.tx, .slice a n.ks.length cap]] w fun e w' => e = .returned (.bool (nodeB n)) ∧ Below w.heap.size w w' := by
  have hb0 : Below w.heap.size w (w.alloc (Obj.cells #[Value.string n.ns, Value.string n.nm, Value.string n.tx, Value.slice a n.ks.length cap] 26)) := (Below.refl _ _).alloc (Nat.le_refl _) _
  have hq := nodesOk_all (cntL n.ks + 1) n a cap B 5 20 _ (Nat.lt_succ_self _) (h.stays hb0 hB) (Nat.le_trans hB hb0.size) hs (by omega) (by omega)
  rw [← nodeB_iS]
  generalize n.iS 5 20 = c at *
  cases c with
  | none =>
    go_enter Tryz.func15, Tryz.ntmps15
    go_wp2_with fail
    refine hq.mono ?_
    rintro e w1 ⟨rfl, hb1⟩
    have c1 := hb0.trans (hb1.mono hb0.size)
    simp only [nOut]
    go_wp2
    go_ret
    exact ⟨rfl, c1⟩
  | some x =>
    go_enter Tryz.func15, Tryz.ntmps15
    go_wp2_with fail
    refine hq.mono ?_
    rintro e w1 ⟨rfl, hb1⟩
    have c1 := hb0.trans (hb1.mono hb0.size)
    simp only [nOut]
    go_wp2
    go_ret
    exact ⟨rfl, c1⟩
end Go.Proofs.YtccehdlgpbeijaaGreatDoor
namespace Go.Proofs.YtccehdlgpbeijaaGreatDoor
open Go.RowKit M
set_option linter.unusedVariables false

theorem bytes_of (s : ByteArray) (l : List UInt8) (h : s.data.toList = l) : s = bytesOf l := by
  apply ByteArray.ext; apply Array.ext'; rw [h]; rfl
theorem below_drewC (w : World) (n : Nat) : Below w.heap.size w (w.drewN n) := ⟨rfl, rfl, rfl, Nat.le_refl _, fun _ _ => rfl⟩
theorem ret_three {a a' b b' : ByteArray} {c c' : Bool} (h1 : a = a') (h2 : b = b') (h3 : c = c') : Ending.returned (.tuple #[.string a, .string b, .bool c]) = .returned (.tuple #[.string a', .string b', .bool c']) := by rw [h1, h2, h3]

set_option maxHeartbeats 1000000 in
theorem cutLite_one (s : ByteArray) (c : UInt8) (w : World) (hs : s.size ≤ maxLen) :
    Calls Tryz.prog 104 #[.string s, .string ⟨#[c]⟩] w fun e w' => e = .returned (.tuple #[.string (bytesOf (upTo c s.data.toList)), .string (bytesOf (fromB c s.data.toList).tail), .bool (!(fromB c s.data.toList).isEmpty)]) ∧ Below w.heap.size w w' := by
  unfold maxLen at hs
  have el : s.data.toList.length = s.size := Array.length_toList
  have HI := hide (fun W : World => Tryz.stringslite_Index_one s c W)
  have hix : Lib.indexByte s.data.toList c = if fromB c s.data.toList = [] then -1 else ((upTo c s.data.toList).length : Int) := indexByte_upTo _ c
  have hup := upTo_end c s.data.toList
  by_cases hf : fromB c s.data.toList = []
  · rw [if_pos hf] at hix
    rw [hix] at HI
    have e := upTo_from c s.data.toList
    rw [hf, List.append_nil] at e
    have HR := hide (ret_three (bytes_of s _ e.symm) (show (⟨#[]⟩ : ByteArray) = bytesOf (fromB c s.data.toList).tail by rw [hf]; rfl) (show false = !(fromB c s.data.toList).isEmpty by rw [hf]; rfl))
    clear hix hf e hup el
    go_enter Tryz.func104, Tryz.ntmps104
    go_wp2_with fail
    refine (HI.out w).mono ?_
    rintro e w1 ⟨rfl, hw1⟩
    obtain rfl := hw1.symm
    go_wp2
    go_ret3
    exact ⟨HR.out, Below.refl _ _⟩
  · rw [if_neg hf] at hix
    rw [hix] at HI
    have hlt : (upTo c s.data.toList).length < s.size := by
      have h1 := hup.1
      have h2 : (upTo c s.data.toList).length ≠ s.data.toList.length := fun e => hf (hup.2.1 e)
      omega
    have x1 := extract_upTo s c 0
    have x2 := drop_upTo s c 0
    rw [List.drop_zero, Nat.zero_add] at x1 x2
    have HR := hide (ret_three (bytes_of _ _ x1) (bytes_of _ _ ((extract_rest s ((upTo c s.data.toList).length + 1)).trans x2)) (show true = !(fromB c s.data.toList).isEmpty by cases hq : fromB c s.data.toList with | nil => exact absurd hq hf | cons _ _ => rfl))
    obtain ⟨n, hn⟩ : ∃ n, (upTo c s.data.toList).length = n := ⟨_, rfl⟩
    rw [hn] at HI hlt HR
    have hn1 : (n : Int) + 1 ≤ s.size := by omega
    have hn2 : (n : Int) ≤ s.size := by omega
    have hw : IntKind.i64.wrap ((n : Int) + 1) = (n : Int) + 1 := by rw [IntKind.wrap_i64]; omega
    clear hix hf hup el x1 x2 hn
    go_enter Tryz.func104, Tryz.ntmps104
    go_wp2_with fail
    refine (HI.out w).mono ?_
    rintro e w1 ⟨rfl, hw1⟩
    obtain rfl := hw1.symm
    go_wp2
    go_quiet (fail)
    go_wp2
    go_ret3
    exact ⟨HR.out, below_drewC w nq⟩

set_option maxHeartbeats 1000000 in
theorem cut_any (s : ByteArray) (c : UInt8) (w : World) (hs : s.size ≤ maxLen) :
    Calls Tryz.prog 101 #[.string s, .string ⟨#[c]⟩] w fun e w' => e = .returned (.tuple #[.string (bytesOf (upTo c s.data.toList)), .string (bytesOf (fromB c s.data.toList).tail), .bool (!(fromB c s.data.toList).isEmpty)]) ∧ Below w.heap.size w w' := by
  go_enter Tryz.func101, Tryz.ntmps101
  go_wp2_with fail
  refine (cutLite_one s c w hs).mono ?_
  rintro e w1 ⟨rfl, b1⟩
  go_wp2
  go_ret3
  exact ⟨rfl, b1⟩
end Go.Proofs.YtccehdlgpbeijaaGreatDoor
namespace Go.Proofs.YtccehdlgpbeijaaGreatDoor
open Go.RowKit M
set_option linter.unusedVariables false

set_option maxRecDepth 100000 in
set_option maxHeartbeats 2000000 in
theorem cutName_any (s : ByteArray) (w : World) (hs : s.size ≤ 1099511627776) :
    Calls Tryz.prog 95 #[.string s] w fun e w' => e = .returned (.tuple #[.string (bytesOf (nmL s.data.toList)), .string (bytesOf (nmR s.data.toList)), .bool (smB (nmL s.data.toList))]) ∧ Below w.heap.size w w' := by
  have hA := fun k => nm_at s 0 k (Nat.zero_le _)
  have hT := nm_take s 0
  have hD := nm_drop s 0
  have hZ := nm_size s 0 (Nat.zero_le _)
  rw [List.drop_zero, Nat.zero_add] at hT hD hZ
  have HR := hide (ret_three (bytes_of _ _ hT) (bytes_of _ _ ((extract_rest s _).trans hD)) (show smB (s.extract 0 (nmL s.data.toList).length).data.toList = smB (nmL s.data.toList) by rw [hT]))
  have HA : Hid (∀ k, (hk : k < s.size) → k ≤ (nmL s.data.toList).length → nameP s[k] = decide (k < (nmL s.data.toList).length)) := fun k hk hle => by
    have := hA k hk
    rw [List.drop_zero, Nat.zero_add] at this
    exact this hle
  obtain ⟨m, hm⟩ : ∃ m, (nmL s.data.toList).length = m := ⟨_, rfl⟩
  rw [hm] at HR HA hZ
  have hx : (s.extract 0 m).size ≤ maxLen := by rw [ByteArray.size_extract]; unfold maxLen; omega
  have hx2 : (s.extract 0 m).size ≤ 281474976710656 := by rw [ByteArray.size_extract]; omega
  have HC := hide (fun W : World => clone_any (s.extract 0 m) W hx2)
  have HS := hide (fun W : World => smallName_any (s.extract 0 m) W hx)
  obtain ⟨bq, hbq⟩ : ∃ bq, smB (s.extract 0 m).data.toList = bq := ⟨_, rfl⟩
  rw [hbq] at HS HR
  clear hA hT hD hm hx hx2 hbq
  go_enter Tryz.func95, Tryz.ntmps95
  go_wp2
  go_loopw [5] (fun i wr => ∃ k : Nat, k ≤ m ∧ i = .int .i64 k ∧ Below w.heap.size w wr) (fun i _ => m - (intOf i).toNat)
  case atStart => exact ⟨0, Nat.zero_le _, rfl, Below.refl _ _⟩
  case round =>
    obtain ⟨k, hk, rfl, hbe⟩ := hrel
    by_cases hkm : k < m
    · have hks : k < s.size := by omega
      have hks' : (k : Int) < s.size := by omega
      have hn : anyB (s[k].toNat : Int) [2, 4, 7] = true := by have := HA.out k hks hk; rw [decide_eq_true hkm] at this; exact this
      go_wp2_with (go_at_call 90; refine (isOneOf_any _ [2, 4, 7] 3 _ 0 3 _ rfl (by decide) (cells3 _ _ 2 4 7 121 rfl)).mono ?_; rintro e w1 ⟨rfl, rfl⟩; rw [hn])
      go_roundw
      case rel => exact ⟨k + 1, by omega, by go_num, hbe.alloc hbe.size _⟩
      case measure => simp [intOf]; omega
    · obtain rfl : k = m := by omega
      have hc : (k : Int) ≤ s.size := by omega
      have hc0 : (0 : Int) ≤ k := by omega
      by_cases hks : k < s.size
      · have hks' : (k : Int) < s.size := by omega
        have hn : anyB (s[k].toNat : Int) [2, 4, 7] = false := by have := HA.out k hks hk; rw [decide_eq_false hkm] at this; exact this
        go_wp2_with (go_at_call 90; refine (isOneOf_any _ [2, 4, 7] 3 _ 0 3 _ rfl (by decide) (cells3 _ _ 2 4 7 121 rfl)).mono ?_; rintro e w1 ⟨rfl, rfl⟩; rw [hn])
        go_region_held3 (fun _ => True) (trivial) ((first
          | (go_at_call 58; refine (HC.out _).mono ?_; rintro e w2 ⟨rfl, b2⟩)
          | (go_at_call 81; refine (HS.out _).mono ?_; rintro e w3 ⟨rfl, b3⟩)))
        all_goals
          go_wp2
          go_ret3
          exact ⟨HR.out, (hbe.alloc hbe.size _).drew.trans ((b2.trans (b3.mono b2.size)).mono (by have := hbe.size; simp; omega))⟩
      · have hks' : ¬ (k : Int) < s.size := by omega
        go_wp2
        go_region_held3 (fun _ => True) (trivial) ((first
          | (go_at_call 58; refine (HC.out _).mono ?_; rintro e w2 ⟨rfl, b2⟩)
          | (go_at_call 81; refine (HS.out _).mono ?_; rintro e w3 ⟨rfl, b3⟩)))
        all_goals
          go_wp2
          go_ret3
          exact ⟨HR.out, hbe.drew.trans ((b2.trans (b3.mono b2.size)).mono hbe.size)⟩
end Go.Proofs.YtccehdlgpbeijaaGreatDoor
namespace Go.Proofs.YtccehdlgpbeijaaGreatDoor
open Go.RowKit M

theorem atoi_calls (s : ByteArray) (w : World) (hd : digs s.data.toList = true) (h0 : 0 < s.size) (h7 : s.size ≤ 7) :
    Calls Tryz.prog 113 #[.string s] w fun e w' => e = .returned (.tuple #[.int .i64 (decVal s.data.toList), .nilIface]) ∧ Below w.heap.size w w' := by
  refine (Tryz.strconv_Atoi s (decVal s.data.toList : Int) (by omega) (atoi_val _ hd (by rw [len_list]; omega)) w).mono ?_
  rintro e w' ⟨rfl, t, rfl⟩
  exact ⟨rfl, below_bytes _ _ _⟩

set_option maxHeartbeats 1000000 in
theorem parseNum_any (s : ByteArray) (most : Int) (w : World) (hs : s.size ≤ maxLen) :
    Calls Tryz.prog 112 #[.string s, .int .i64 most] w fun e w' => e = .returned (.tuple #[.int .i64 (parseNum s.data.toList most).1, .bool (parseNum s.data.toList most).2]) ∧ Below w.heap.size w w' := by
  have hs' := hs
  unfold maxLen at hs'
  cases hin : inB (s.size : Int) 1 7
  · have HQ : Hid (parseNum s.data.toList most = (0, false)) := parseNum_no (not_size hin)
    have h : s.size < 1 ∨ 7 < s.size := by simp [inB] at hin; omega
    clear hin
    rcases h with h | h
    · go_enter Tryz.func112, Tryz.ntmps112
      go_wp2
      go_ret2
      exact ⟨ret_two (by rw [HQ.out]), Below.refl _ _⟩
    · have h' : ¬ s.size < 1 := by omega
      go_enter Tryz.func112, Tryz.ntmps112
      go_wp2
      go_ret2
      exact ⟨ret_two (by rw [HQ.out]), Below.refl _ _⟩
  · have h0 : 0 < s.size := by simp [inB] at hin; omega
    have h7 : ¬ 7 < s.size := by simp [inB] at hin; omega
    have h1n : ¬ s.size < 1 := by omega
    have HIN : Hid (inB (s.size : Int) 1 7 = true) := hin
    clear hin
    cases hd : allB s.data.toList [4]
    · have HQ : Hid (parseNum s.data.toList most = (0, false)) := parseNum_no (not_digs hd)
      go_enter Tryz.func112, Tryz.ntmps112
      go_wp2_with (go_at_call 85; refine (allOf_any s [4] 1 _ 0 1 _ rfl hs (by decide) (cells1 w 4 121)).mono ?_; rintro e w' ⟨rfl, rfl⟩; rw [hd])
      go_ret2
      exact ⟨ret_two (by rw [HQ.out]), (Below.refl _ _).alloc (Nat.le_refl _) _⟩
    · have HD : Hid (digs s.data.toList = true) := hd
      have hrest : (1 < s.size → (((s[0]).toNat : Int) == 48) = false) → Calls Tryz.prog 112 #[.string s, .int .i64 most] w fun e w' => e = .returned (.tuple #[.int .i64 (parseNum s.data.toList most).1, .bool (parseNum s.data.toList most).2]) ∧ Below w.heap.size w w' := by
        intro hz
        have hv : decVal s.data.toList < 100000000 := by
          have h1 := decVal_lt _ hd
          have h3 := Nat.pow_le_pow_right (show 0 < 10 by decide) (show s.data.toList.length ≤ 8 by rw [len_list]; omega)
          omega
        by_cases hm : most < (decVal s.data.toList : Int)
        · have HQ : Hid (parseNum s.data.toList most = (0, false)) := parseNum_no (not_most hm)
          by_cases h1 : 1 < s.size
          · have hz' := hz h1
            have h1' : (1 : Int) < s.size := by omega
            clear hz
            go_enter Tryz.func112, Tryz.ntmps112
            go_wp2_with (first | (go_at_call 85; refine (allOf_any s [4] 1 _ 0 1 _ rfl hs (by decide) (cells1 w 4 121)).mono ?_; rintro e w' ⟨rfl, rfl⟩; rw [hd]) | (go_at_call 113; refine (atoi_calls s _ HD.out h0 (by omega)).mono ?_; rintro e w1 ⟨rfl, hb1⟩))
            go_ret2
            exact ⟨ret_two (by rw [HQ.out]), ((Below.refl _ _).alloc (Nat.le_refl _) _).trans (hb1.mono (by simp))⟩
          · have h1' : ¬ (1 : Int) < s.size := by omega
            clear hz
            go_enter Tryz.func112, Tryz.ntmps112
            go_wp2_with (first | (go_at_call 85; refine (allOf_any s [4] 1 _ 0 1 _ rfl hs (by decide) (cells1 w 4 121)).mono ?_; rintro e w' ⟨rfl, rfl⟩; rw [hd]) | (go_at_call 113; refine (atoi_calls s _ HD.out h0 (by omega)).mono ?_; rintro e w1 ⟨rfl, hb1⟩))
            go_ret2
            exact ⟨ret_two (by rw [HQ.out]), ((Below.refl _ _).alloc (Nat.le_refl _) _).trans (hb1.mono (by simp))⟩
        · have HQ : Hid (parseNum s.data.toList most = ((decVal s.data.toList : Int), true)) := parseNum_yes (is_ok h0 HIN.out HD.out hz hm)
          by_cases h1 : 1 < s.size
          · have hz' := hz h1
            have h1' : (1 : Int) < s.size := by omega
            clear hz
            go_enter Tryz.func112, Tryz.ntmps112
            go_wp2_with (first | (go_at_call 85; refine (allOf_any s [4] 1 _ 0 1 _ rfl hs (by decide) (cells1 w 4 121)).mono ?_; rintro e w' ⟨rfl, rfl⟩; rw [hd]) | (go_at_call 113; refine (atoi_calls s _ HD.out h0 (by omega)).mono ?_; rintro e w1 ⟨rfl, hb1⟩))
            go_ret2
            exact ⟨ret_two (by rw [HQ.out]), ((Below.refl _ _).alloc (Nat.le_refl _) _).trans (hb1.mono (by simp))⟩
          · have h1' : ¬ (1 : Int) < s.size := by omega
            clear hz
            go_enter Tryz.func112, Tryz.ntmps112
            go_wp2_with (first | (go_at_call 85; refine (allOf_any s [4] 1 _ 0 1 _ rfl hs (by decide) (cells1 w 4 121)).mono ?_; rintro e w' ⟨rfl, rfl⟩; rw [hd]) | (go_at_call 113; refine (atoi_calls s _ HD.out h0 (by omega)).mono ?_; rintro e w1 ⟨rfl, hb1⟩))
            go_ret2
            exact ⟨ret_two (by rw [HQ.out]), ((Below.refl _ _).alloc (Nat.le_refl _) _).trans (hb1.mono (by simp))⟩
      by_cases h1 : 1 < s.size
      · cases hz : (((s[0]).toNat : Int) == 48)
        · exact hrest (fun _ => hz)
        · have HQ : Hid (parseNum s.data.toList most = (0, false)) := parseNum_no (not_nought h0 h1 hz)
          have h1' : (1 : Int) < s.size := by omega
          clear hrest
          go_enter Tryz.func112, Tryz.ntmps112
          go_wp2_with (go_at_call 85; refine (allOf_any s [4] 1 _ 0 1 _ rfl hs (by decide) (cells1 w 4 121)).mono ?_; rintro e w' ⟨rfl, rfl⟩; rw [hd])
          go_ret2
          exact ⟨ret_two (by rw [HQ.out]), (Below.refl _ _).alloc (Nat.le_refl _) _⟩
      · exact hrest (fun h => absurd h h1)
end Go.Proofs.YtccehdlgpbeijaaGreatDoor
