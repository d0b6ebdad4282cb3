/-
  What the specification's l7Mark does.
  What the specification's own Plain does.
  What the specification's Pieces does.
  What writing a text into a strings.Builder does that the call made itself.
  What the program's Escape does.
  What a type switch on a mark finds.
  What the program's PieceText does.
  A slice of integers as the row hands it in.
  Codes that are too long; what stays below what was there.
  The bytes of a draw as the row hands them in.
-/
import Derived.Test.YtcgmokjnjmefpaaGreatDoorSpecMark3
import Derived.Test.YtcgmokjnjmefpaaGreatDoorSpecParse
import Derived.Test.YtcgmokjnjmefpaaGreatDoorRowsP
import Derived.Test.YtcgmokjnjmefpaaGreatDoorBld
import Derived.Lib.AppendStr
import Derived.Test.YtcgmokjnjmefpaaGreatDoorMathMark
import Derived.Test.YtcgmokjnjmefpaaGreatDoorHide
import Derived.Test.YtcgmokjnjmefpaaGreatDoorIsU8
import Derived.Test.YtcgmokjnjmefpaaGreatDoorShelf
import Derived.Test.YtcgmokjnjmefpaaGreatDoorRows
import Derived.WalkKit
import Derived.Laws.Entries
import Derived.Tactics
import Derived.Test.YtcgmokjnjmefpaaGreatDoorMathPieces
import Derived.Test.YtcgmokjnjmefpaaGreatDoorMarkV
import Derived.Deep.RegionHeld3
import Derived.OpenShut
import Derived.WalkSpells
import Derived.WalkLawsBesides
import Derived.Test.YtcgmokjnjmefpaaGreatDoorDrawO
namespace Go.Proofs.YtcgmokjnjmefpaaGreatDoor
open Go.RowKit M
set_option linter.unusedVariables false

set_option maxRecDepth 100000 in
set_option maxHeartbeats 8000000 in
theorem l7Mark_open (s : ByteArray) (a : Nat) (w : World) (ha : a < s.size) (hs : s.size ≤ 1099511627776) (hp2 : [60, 47].isPrefixOf (s.data.toList.drop a) = false) (hp : [60].isPrefixOf (s.data.toList.drop a) = true) :
    Calls Tryz.prog 80 #[.string s, .int .i64 a] w fun e w' => MarkAt s a e ∧ Below w.heap.size w w' := by
  have el : s.data.toList.length = s.size := Array.length_toList
  have h2 : a + 1 ≤ s.size := by omega
  have em : markL (s.data.toList.drop a) = openL (s.data.toList.drop (a + 1)) := by unfold markL; rw [if_neg (by simp [hp2]), if_pos hp, List.drop_drop]
  have H1 := hide (fun W : World => l7At_any s ⟨#[60, 47]⟩ [60, 47] rfl a W (by omega) hs (by decide))
  rw [hp2] at H1
  have HN := hide (fun W : World => l7Name_any s (a + 1) W h2 hs)
  have hZ := nm_size s (a + 1) h2
  have hT := nm_take s (a + 1)
  have hD := nm_drop s (a + 1)
  have HA := hide (fun (W : World) h => l7At_any s ⟨#[32, 120, 109, 108, 110, 115, 61, 34]⟩ spcS rfl (a + 1 + (nmL (s.data.toList.drop (a + 1))).length) W h hs (by decide))
  obtain ⟨k, hk⟩ : ∃ k, a + 1 + (nmL (s.data.toList.drop (a + 1))).length = k := ⟨_, rfl⟩
  rw [hk] at HN hZ hT hD HA
  have hak : a + 1 ≤ k := by omega
  have HX := hide (fun W : World => HA.out W hZ)
  rw [hD] at HX
  have hxs : (s.extract (a + 1) k).size ≤ maxLen := by rw [ByteArray.size_extract]; unfold maxLen; omega
  have HS := hide (fun W : World => specSmallName_any (s.extract (a + 1) k) W hxs)
  rw [hT] at HS
  have hak' : (a : Int) + 1 ≤ k := by omega
  have hks' : (k : Int) ≤ s.size := by omega
  have ha0 : (0 : Int) ≤ (a : Int) + 1 := by omega
  have HNm := hide (bytes_ofS _ _ hT)
  obtain ⟨n, hn⟩ : ∃ n, s.extract (a + 1) k = n := ⟨_, rfl⟩
  rw [hn] at HS HNm
  cases hsm : smB (nmL (s.data.toList.drop (a + 1)))
  · rw [hsm] at HS
    have HR := hide (at_none (em.trans (openL_none (.inl hsm))))
    clear el em hT hD HA HX hxs hsm hk
    go_enter Tryz.func80, Tryz.ntmps80
    go_wp2_with fail
    refine (H1.out _).mono ?_
    rintro e w9 ⟨rfl, hw⟩
    obtain rfl := hw.symm
    go_wp2_with fail
    refine (HN.out _).mono ?_
    rintro e w9 ⟨rfl, hw⟩
    obtain rfl := hw.symm
    go_wp2_with fail
    refine (HS.out _).mono ?_
    rintro e w9 ⟨rfl, hw⟩
    obtain rfl := hw.symm
    go_wp2
    refine bodyPost_ret (v := .tuple #[.agg #[.int .i64 0, .string ⟨#[]⟩, .string ⟨#[]⟩, .bool false, .string ⟨#[]⟩], .int .i64 (-1)]) (by simp [results, Tryz.results80, go_sem]) rfl ⟨HR.out, ?_⟩
    exact ((Below.refl _ _).alloc (Nat.le_refl _) _).alloc (by simp) _
  · rw [hsm] at HS
    cases hsp : spcS.isPrefixOf (nmR (s.data.toList.drop (a + 1)))
    · rw [hsp] at HX
      have eo := em.trans (openL_end hsm (spc_no hsp))
      have H62 := hide (fun W : World => l7At_any s ⟨#[62]⟩ [62] rfl k W hZ hs (by decide))
      have H47 := hide (fun W : World => l7At_any s ⟨#[47, 62]⟩ [47, 62] rfl k W hZ hs (by decide))
      rw [hD] at H62 H47
      cases h62 : [62].isPrefixOf (nmR (s.data.toList.drop (a + 1)))
      · rw [h62] at H62
        cases h47 : [47, 62].isPrefixOf (nmR (s.data.toList.drop (a + 1)))
        · rw [h47] at H47
          have HR := hide (at_none (eo.trans (endM_0 h62 h47)))
          clear el em hT hD HA hxs hsm hk hsp eo h62 h47
          go_enter Tryz.func80, Tryz.ntmps80
          go_wp2_with fail
          refine (H1.out _).mono ?_
          rintro e w9 ⟨rfl, hw⟩
          obtain rfl := hw.symm
          go_wp2_with fail
          refine (HN.out _).mono ?_
          rintro e w9 ⟨rfl, hw⟩
          obtain rfl := hw.symm
          go_wp2_with fail
          refine (HS.out _).mono ?_
          rintro e w9 ⟨rfl, hw⟩
          obtain rfl := hw.symm
          go_wp2_with fail
          refine (HX.out _).mono ?_
          rintro e w9 ⟨rfl, hw⟩
          obtain rfl := hw.symm
          go_wp2_with fail
          refine (H62.out _).mono ?_
          rintro e w9 ⟨rfl, hw⟩
          obtain rfl := hw.symm
          go_wp2_with fail
          refine (H47.out _).mono ?_
          rintro e w9 ⟨rfl, hw⟩
          obtain rfl := hw.symm
          go_wp2
          refine bodyPost_ret (v := .tuple #[.agg #[.int .i64 0, .string ⟨#[]⟩, .string ⟨#[]⟩, .bool false, .string ⟨#[]⟩], .int .i64 (-1)]) (by simp [results, Tryz.results80, go_sem]) rfl ⟨HR.out, ?_⟩
          exact ((Below.refl _ _).alloc (Nat.le_refl _) _).alloc (by simp) _
        · rw [h47] at H47
          have hk1 : k + 2 ≤ s.size := by have := pre_len h47; rw [← hD, List.length_drop] at this; simp at this; omega
          have HR : Hid (MarkAt s a (.returned (.tuple #[.agg #[.int .i64 3, .string n, .string ⟨#[]⟩, .bool false, .string ⟨#[]⟩], .int .i64 ((k : Int) + 2)]))) :=
            at_some (eo.trans (endM_3 h47)) (k := k + 2) (by omega) (by omega) hk1 (by rw [← hD, List.drop_drop]) rfl HNm.out rfl rfl rfl
          clear el em hT hD HA hxs hsm hk hsp eo h62 h47
          go_enter Tryz.func80, Tryz.ntmps80
          go_wp2_with fail
          refine (H1.out _).mono ?_
          rintro e w9 ⟨rfl, hw⟩
          obtain rfl := hw.symm
          go_wp2_with fail
          refine (HN.out _).mono ?_
          rintro e w9 ⟨rfl, hw⟩
          obtain rfl := hw.symm
          go_wp2_with fail
          refine (HS.out _).mono ?_
          rintro e w9 ⟨rfl, hw⟩
          obtain rfl := hw.symm
          go_wp2_with fail
          refine (HX.out _).mono ?_
          rintro e w9 ⟨rfl, hw⟩
          obtain rfl := hw.symm
          go_wp2_with fail
          refine (H62.out _).mono ?_
          rintro e w9 ⟨rfl, hw⟩
          obtain rfl := hw.symm
          go_wp2_with fail
          refine (H47.out _).mono ?_
          rintro e w9 ⟨rfl, hw⟩
          obtain rfl := hw.symm
          go_wp2
          refine bodyPost_ret (v := .tuple #[.agg #[.int .i64 3, .string n, .string ⟨#[]⟩, .bool false, .string ⟨#[]⟩], .int .i64 ((k : Int) + 2)]) (by simp [results, Tryz.results80, go_sem]) rfl ⟨HR.out, ((Below.refl _ _).alloc (Nat.le_refl _) _).alloc (by simp) _⟩
      · rw [h62] at H62
        have hk1 : k + 1 ≤ s.size := by have := pre_len h62; rw [← hD, List.length_drop] at this; simp at this; omega
        have HR : Hid (MarkAt s a (.returned (.tuple #[.agg #[.int .i64 1, .string n, .string ⟨#[]⟩, .bool false, .string ⟨#[]⟩], .int .i64 ((k : Int) + 1)]))) :=
          at_some (eo.trans (endM_1 h62)) (k := k + 1) (by omega) (by omega) hk1 (by rw [← hD, List.drop_drop]) rfl HNm.out rfl rfl rfl
        clear el em hT hD HA hxs hsm hk hsp eo h62 H47
        go_enter Tryz.func80, Tryz.ntmps80
        go_wp2_with fail
        refine (H1.out _).mono ?_
        rintro e w9 ⟨rfl, hw⟩
        obtain rfl := hw.symm
        go_wp2_with fail
        refine (HN.out _).mono ?_
        rintro e w9 ⟨rfl, hw⟩
        obtain rfl := hw.symm
        go_wp2_with fail
        refine (HS.out _).mono ?_
        rintro e w9 ⟨rfl, hw⟩
        obtain rfl := hw.symm
        go_wp2_with fail
        refine (HX.out _).mono ?_
        rintro e w9 ⟨rfl, hw⟩
        obtain rfl := hw.symm
        go_wp2_with fail
        refine (H62.out _).mono ?_
        rintro e w9 ⟨rfl, hw⟩
        obtain rfl := hw.symm
        go_wp2
        refine bodyPost_ret (v := .tuple #[.agg #[.int .i64 1, .string n, .string ⟨#[]⟩, .bool false, .string ⟨#[]⟩], .int .i64 ((k : Int) + 1)]) (by simp [results, Tryz.results80, go_sem]) rfl ⟨HR.out, ((Below.refl _ _).alloc (Nat.le_refl _) _).alloc (by simp) _⟩
    · exact l7Mark_space s a w ha hs hp2 hp hsm hsp

theorem l7Mark_any (s : ByteArray) (a : Nat) (w : World) (ha : a < s.size) (hs : s.size ≤ 1099511627776) (h60 : s[a] = 60) :
    Calls Tryz.prog 80 #[.string s, .int .i64 a] w fun e w' => MarkAt s a e ∧ Below w.heap.size w w' := by
  have hd := drop_cons s a ha
  have hp : [60].isPrefixOf (s.data.toList.drop a) = true := by rw [hd, h60]; simp [List.isPrefixOf]
  cases hp2 : [60, 47].isPrefixOf (s.data.toList.drop a)
  · exact l7Mark_open s a w ha hs hp2 hp
  · exact l7Mark_close s a w ha hs hp2
end Go.Proofs.YtcgmokjnjmefpaaGreatDoor
namespace Go.Proofs.YtcgmokjnjmefpaaGreatDoor
open Go.RowKit M

set_option maxHeartbeats 400000 in
theorem specPlain_any (s : ByteArray) (w : World) (hs : s.size ≤ maxLen) :
    Calls Tryz.prog 79 #[.string s] w fun e w' => e = .returned (.bool (allB s.data.toList [0])) ∧ w' = w := by
  unfold maxLen at hs
  go_enter Tryz.func79, Tryz.ntmps79
  go_wp2
  go_loop [3] (fun i => ∃ k : Nat, k ≤ s.size ∧ i = .int .i64 k ∧ allB (s.data.toList.take k) [0] = true) (fun i => s.size - (intOf i).toNat)
  case atStart => exact ⟨0, Nat.zero_le _, rfl, rfl⟩
  case round =>
    obtain ⟨k, hk, rfl, hn⟩ := hrel
    have HN : Hid (allB (s.data.toList.take k) [0] = true) := hn; clear hn
    by_cases hlt : k < s.size
    · go_wp2_with (go_at_call 51; refine (l1In_any _ _ _ _).mono ?_; rintro e w' ⟨rfl, rfl⟩; rw [wrap64_u8, inB_plain])
      · go_ret
        exact ⟨ret_bool (by rw [allB_not s [0] k hlt (by assumption)]), rfl⟩
      · go_round
        case rel => exact ⟨k + 1, by omega, by go_num, allB_snoc s [0] k hlt HN.out (by assumption)⟩
        case measure => simp [intOf]; omega
    · go_wp2
      go_ret
      exact ⟨ret_bool (by rw [← HN.out, take_all s k hlt]), rfl⟩

end Go.Proofs.YtcgmokjnjmefpaaGreatDoor
namespace Go.Proofs.YtcgmokjnjmefpaaGreatDoor
open Go.RowKit M
set_option linter.unusedVariables false

/-- What the specification's Pieces answers. -/
def PcsIsS (w' : World) (B : Nat) (r : List Pce × Bool) (e : Ending) : Prop := ∃ v, e = .returned (.tuple #[v, .bool r.2]) ∧ OwnP w' B v r.1
theorem pcs_retS {w' : World} {B : Nat} {r : List Pce × Bool} {v : Value} {ps : List Pce} {b : Bool} (h : r = (ps, b)) (ho : OwnP w' B v ps) : PcsIsS w' B r (.returned (.tuple #[v, .bool b])) := by subst h; exact ⟨v, rfl, ho⟩
theorem markL_text7 {l : List UInt8} {c : UInt8} (h : l.head? = some c) (hc : c ≠ 60) : markL l = textL7 l := by
  cases l with
  | nil => cases h
  | cons d r =>
    have hd : d = c := Option.some.inj h
    subst hd
    unfold markL
    have h1 : [60, 47].isPrefixOf (d :: r) = false := by
      simp only [List.isPrefixOf]
      have : ((60 : UInt8) == d) = false := by simp [Ne.symm hc]
      rw [this]; rfl
    have h2 : [60].isPrefixOf (d :: r) = false := by
      simp only [List.isPrefixOf]
      have : ((60 : UInt8) == d) = false := by simp [Ne.symm hc]
      rw [this]; rfl
    rw [if_neg (by simp [h1]), if_neg (by simp [h2])]

set_option maxRecDepth 100000 in
set_option maxHeartbeats 4000000 in
theorem specPieces_any (s : ByteArray) (w : World) (hs : s.size ≤ 1099511627776) :
    Calls Tryz.prog 37 #[.string s] w fun e w' => PcsIsS w' w.heap.size (pcsR s.data.toList) e ∧ Below w.heap.size w w' := by
  have HP := hide (fun W : World => specPlain_any s W (by unfold maxLen; omega))
  go_enter Tryz.func37, Tryz.ntmps37
  go_wp2
  go_loopw [4, 5] (fun o i wr => ∃ (k : Nat) (acc : List Pce), k ≤ s.size ∧ i = .int .i64 k ∧ (allB s.data.toList [0] = false → acc = []) ∧ PcAt s.data.toList (s.data.toList.drop k) acc ∧ OwnP wr w.heap.size o acc ∧ Below w.heap.size w wr) (fun _ i _ => s.size - (intOf i).toNat)
  case atStart => exact ⟨0, [], Nat.zero_le _, rfl, fun _ => rfl, PcAt.start _, OwnP.made w w.heap.size (Nat.le_refl _), (Below.refl _ _).alloc (Nat.le_refl _) _⟩
  case round =>
    obtain ⟨k, acc, hks, rfl, hE, hA, hO, hbe⟩ := hrel
    have h60 : acc.length ≤ 60 := hA.2.1
    have HA := hide hA
    have HE := hide hE
    clear hA hE
    obtain ⟨al, cl, rfl⟩ := hO.slice
    have HO := hide hO
    have HBe := hide hbe
    clear hO hbe
    cases hpl : allB s.data.toList [0]
    · rw [hpl] at HP
      have hacc := HE.out hpl
      subst hacc
      have HR := hide (pcsR_not hpl)
      clear hpl HE
      by_cases hlt : k < s.size
      · have hlt' : (k : Int) < s.size := by omega
        go_wp2_with (go_at_call 79; refine (HP.out _).mono ?_; rintro e w1 ⟨rfl, hw⟩; obtain rfl := hw.symm)
        go_ret2
        exact ⟨pcs_retS HR.out HO.out, HBe.out⟩
      · have hlt' : ¬ (k : Int) < s.size := by omega
        go_wp2_with (go_at_call 79; refine (HP.out _).mono ?_; rintro e w1 ⟨rfl, hw⟩; obtain rfl := hw.symm)
        go_ret2
        exact ⟨pcs_retS HR.out HO.out, HBe.out⟩
    · rw [hpl] at HP
      have HPL := hide hpl
      clear hpl HE
      by_cases hlt : k < s.size
      · have hlt' : (k : Int) < s.size := by omega
        have hk0 : (0 : Int) ≤ k := by omega
        have hd := drop_cons s k hlt
        have HNE := hide (show s.data.toList.drop k ≠ [] by rw [hd]; simp)
        have HHd := hide (show (s.data.toList.drop k).head? = some s[k] by rw [hd]; rfl)
        clear hd
        by_cases hn : acc.length = 60
        · have HR := hide (HA.out.many HNE.out hn)
          have hn' : ((acc.length : Int) == 60) = true := by rw [beq_iff_eq]; omega
          clear hn
          go_wp2_with (go_at_call 79; refine (HP.out _).mono ?_; rintro e w1 ⟨rfl, hw⟩; obtain rfl := hw.symm)
          go_ret2
          exact ⟨pcs_retS HR.out (OwnP.made wr w.heap.size HBe.out.size), HBe.out.alloc HBe.out.size _⟩
        · have hn' : ((acc.length : Int) == 60) = false := by rw [beq_eq_false_iff_ne]; omega
          have hn60 : acc.length < 60 := by omega
          clear hn
          have e1 := is_u8 s[k] 60 60 rfl
          by_cases hc : s[k] = 60
          · rw [decide_eq_true hc] at e1
            have HM := hide (fun W : World => l7Mark_any s k W hlt hs hc)
            clear hc
            go_wp2_with (go_at_call 79; refine (HP.out _).mono ?_; rintro e w1 ⟨rfl, hw⟩; obtain rfl := hw.symm)
            refine (HM.out wr).mono ?_
            rintro e w2 ⟨⟨p, z, rfl, hz0, hz1⟩, b2⟩
            have c2 := HBe.out.trans (b2.mono HBe.out.size)
            have O2 := hide (HO.out.next b2)
            cases hm : markL (s.data.toList.drop k) with
            | none =>
              have hz := hz0 hm
              subst hz
              have HR := hide (HA.out.bad HNE.out hm)
              clear hm hz0 hz1
              go_wp2
              go_ret2
              have hO9 := OwnP.made (w2.alloc (Obj.cells #[.int .i64 p.k, .string p.name, .string p.ns, .bool p.has, .string p.s] 62)) w.heap.size (by have := c2.size; simp; omega)
              have hz9 : (w2.alloc (Obj.cells #[.int .i64 p.k, .string p.name, .string p.ns, .bool p.has, .string p.s] 62)).heap.size = w2.heap.size + 1 := by simp
              rw [hz9] at hO9
              exact ⟨pcs_retS HR.out hO9, (c2.alloc c2.size _).alloc (by have := c2.size; simp; omega) _⟩
            | some x =>
              obtain ⟨p', q⟩ := x
              obtain ⟨rfl, k', rfl, hkk, hks2, hq⟩ := hz1 p' q hm
              have hA2 := HA.out.step HNE.out hm hn60
              rw [← hq] at hA2
              have HA2 := hide hA2
              have O3 := hide ((O2.out.alloc (Obj.cells #[.int .i64 p.k, .string p.name, .string p.ns, .bool p.has, .string p.s] 62)).alloc (Obj.cells #[.int .i64 p.k, .string p.name, .string p.ns, .bool p.has, .string p.s] 62))
              clear hm hz0 hz1 hq hA2
              go_wp2_with (at_builtin; refine wp_append_piece rfl _ _ rfl w.heap.size _ acc rfl O3.out _ p rfl ?c0 ?c1 ?c2 ?c3 ?c4 ?c5 ?c6 ?_)
              case c0 => simp
              case c1 => simp
              case c2 => simp
              case c3 => simp
              case c4 => simp
              case c5 => omega
              case c6 => have := c2.size; simp; omega
              intro g4 cap4 w4 o4 b4 _
              have O4 := hide o4
              have B4 := hide (((c2.alloc c2.size _).alloc (by have := c2.size; simp; omega) _).trans b4)
              clear o4 b4 O3
              go_wp2
              go_roundw
              case rel => exact ⟨k', acc ++ [p], hks2, rfl, (fun h => by first | (cases h; done) | (rw [HPL.out] at h; cases h)), HA2.out, O4.out, B4.out⟩
              case measure => simp [intOf]; omega
          · rw [decide_eq_false hc] at e1
            have hmt := markL_text7 HHd.out hc
            have HMT := hide hmt
            have ha := upTo_len s 60 k hks
            have HAT := hide (fun (j : Nat) (h1 : k ≤ j) (h2 : j < s.size) (h3 : j ≤ k + (upTo 60 (s.data.toList.drop k)).length) => upTo_at s 60 k j h1 h2 h3)
            have hXt := extract_upTo s 60 k
            have hDr : s.data.toList.drop (k + (upTo 60 (s.data.toList.drop k)).length) = fromB 60 (s.data.toList.drop k) := by
              have e := upTo_from 60 (s.data.toList.drop k)
              rw [← List.drop_drop]
              generalize upTo 60 (s.data.toList.drop k) = p at e ⊢
              generalize fromB 60 (s.data.toList.drop k) = q at e ⊢
              rw [← e]
              simp
            have hpos : 0 < (upTo 60 (s.data.toList.drop k)).length := by
              cases hu : upTo 60 (s.data.toList.drop k) with
              | nil =>
                have := (upTo_at s 60 k k (Nat.le_refl _) hlt (by omega)).2 (by rw [hu]; rfl)
                exact absurd this hc
              | cons _ _ => simp
            have hm1 := ha.1
            obtain ⟨m, hm⟩ : ∃ m, k + (upTo 60 (s.data.toList.drop k)).length = m := ⟨_, rfl⟩
            have hkm : k < m := by omega
            rw [hm] at HAT hXt hDr hm1
            have hes : (s.extract k m).size ≤ 1099511627776 := by rw [ByteArray.size_extract]; omega
            have HU := hide (fun W : World => specUnescape_any (s.extract k m) W hes)
            rw [hXt] at HU
            obtain ⟨x, b, hx⟩ : ∃ x b, unescR (upTo 60 (s.data.toList.drop k)) = (x, b) := ⟨_, _, rfl⟩
            rw [hx] at HU
            obtain ⟨xb, hxb⟩ : ∃ xb, bytesOf x = xb := ⟨_, rfl⟩
            simp only [hxb] at HU
            obtain ⟨u, hu⟩ : ∃ u, s.extract k m = u := ⟨_, rfl⟩
            rw [hu] at HU
            have HXX := hide hx
            have HXB := hide hxb
            have HDr := hide hDr
            have hms' : (m : Int) ≤ s.size := by omega
            have hkm' : (k : Int) ≤ m := by omega
            clear hc hmt ha hXt hDr hpos hm hes hx hxb
            go_wp2_with (go_at_call 79; refine (HP.out _).mono ?_; rintro e w1 ⟨rfl, hw⟩; obtain rfl := hw.symm)
            go_loop [8] (fun j => ∃ q : Nat, k ≤ q ∧ q ≤ m ∧ j = .int .i64 q) (fun j => m - (intOf j).toNat)
            case atStart => exact ⟨k, Nat.le_refl _, by omega, rfl⟩
            case round =>
              obtain ⟨q, hq1, hq2, rfl⟩ := hrel
              by_cases hqm : q < m
              · have hqs : q < s.size := by omega
                have hqs' : (q : Int) < s.size := by omega
                have hq0 : (0 : Int) ≤ q := by omega
                have e4 := isn_u8 s[q] 60 60 rfl
                have hne : ¬ s[q] = 60 := fun e => by have := (HAT.out q hq1 hqs hq2).1 e; omega
                rw [decide_eq_false hne] at e4
                clear hne
                go_wp2
                go_round
                case rel => exact ⟨q + 1, by omega, by omega, by go_num⟩
                case measure => simp [intOf]; omega
              · obtain rfl : q = m := by omega
                have hstep : (unesc (upTo 60 (s.data.toList.drop k)) = none → pcsR s.data.toList = ([], false)) ∧ (∀ y, unesc (upTo 60 (s.data.toList.drop k)) = some y → PcAt s.data.toList (s.data.toList.drop q) (acc ++ [textP y])) := by
                  refine ⟨fun h => ?_, fun y h => ?_⟩
                  · exact HA.out.bad HNE.out (by rw [HMT.out]; unfold textL7; rw [h])
                  · have := HA.out.step (p := textP y) (q := fromB 60 (s.data.toList.drop k)) HNE.out (by rw [HMT.out]; unfold textL7; rw [h]) hn60
                    rwa [← HDr.out] at this
                have HST := hide hstep
                clear hstep HMT
                by_cases hqs : q < s.size
                case' pos =>
                  have hqs' : (q : Int) < s.size := by omega
                  have hq0 : (0 : Int) ≤ q := by omega
                  have e4 := isn_u8 s[q] 60 60 rfl
                  have heq : s[q] = 60 := (HAT.out q hq1 hqs hq2).2 rfl
                  rw [decide_eq_true heq] at e4
                  clear heq
                case' neg =>
                  have hqs' : ¬ (q : Int) < s.size := by omega
                all_goals
                  clear HAT
                  go_wp2_with fail
                  refine (HU.out _).mono ?_
                  rintro e w2 ⟨rfl, b2⟩
                  have c2 := HBe.out.trans (b2.mono HBe.out.size)
                  have O2 := hide (HO.out.next b2)
                  cases b
                  · have HR := hide (HST.out.1 (unescR_none HXX.out))
                    clear HST
                    go_wp2
                    go_ret2
                    exact ⟨pcs_retS HR.out (OwnP.made w2 w.heap.size c2.size), c2.alloc c2.size _⟩
                  · have HA2 := hide (HST.out.2 x (unescR_some HXX.out))
                    have HTp := hide (show textP x = ⟨4, ⟨#[]⟩, ⟨#[]⟩, false, xb⟩ by rw [← HXB.out]; rfl)
                    have O3 := hide (O2.out.alloc (Obj.cells #[.int .i64 4, .string ⟨#[]⟩, .string ⟨#[]⟩, .bool false, .string xb] 62))
                    rw [HTp.out] at HA2
                    clear HST
                    go_wp2_with (at_builtin; refine wp_append_piece rfl _ _ rfl w.heap.size _ acc rfl O3.out _ ⟨4, ⟨#[]⟩, ⟨#[]⟩, false, xb⟩ rfl ?_ ?_ ?_ ?_ ?_ ?_ ?_ ?_)
                    · omega
                    · have := c2.size; simp; omega
                    intro g4 cap4 w4 o4 b4 _
                    have O4 := hide o4
                    have B4 := hide ((c2.alloc c2.size _).trans b4)
                    clear o4 b4 O3
                    go_wp2
                    go_roundw
                    case rel => exact ⟨q, acc ++ [⟨4, ⟨#[]⟩, ⟨#[]⟩, false, xb⟩], by omega, rfl, (fun h => by first | (cases h; done) | (rw [HPL.out] at h; cases h)), HA2.out, O4.out, B4.out⟩
                    case measure => simp [intOf]; omega
      · have hlt' : ¬ (k : Int) < s.size := by omega
        have hd := HA.out
        rw [drop_none s k hlt] at hd
        have HR := hide (hd.done HPL.out)
        clear hd
        go_wp2_with (go_at_call 79; refine (HP.out _).mono ?_; rintro e w1 ⟨rfl, hw⟩; obtain rfl := hw.symm)
        go_ret2
        exact ⟨pcs_retS HR.out HO.out, HBe.out⟩
end Go.Proofs.YtcgmokjnjmefpaaGreatDoor
namespace Go.Proofs.YtcgmokjnjmefpaaGreatDoor
open Go.RowKit

theorem strCells_bytes (s : ByteArray) : Lib.strCells s = Lib.byteCells s.data.toList := rfl

set_option maxHeartbeats 2000000 in
set_option maxRecDepth 100000 in
theorem writeString_any (B b : Nat) (l : List UInt8) (s : ByteArray) (w : World) (h : Lib.IsBuilder 200 5 B b (Lib.byteCells l) w) (hlen : l.length + s.size ≤ 140737488355328) (hBw : B ≤ w.heap.size) :
    Calls Tryz.prog 155 #[.pointer (some ⟨b, 0, none⟩), .string s] w fun e w' => e = .returned (.tuple #[.int .i64 s.size, .nilIface]) ∧ Lib.IsBuilder 200 5 B b (Lib.byteCells (l ++ s.data.toList)) w' ∧ Below B w w' := by
  obtain ⟨i0, hi, hz0, hz1, hz2⟩ := info_parts info_byte
  go_enter Tryz.func155, Tryz.ntmps155
  go_wp2_with fail
  refine (copyCheck_any B b _ w h).mono ?_
  rintro e w1 ⟨rfl, h1, hb1⟩
  have hlt := h1.lt
  obtain ⟨hB, v, hbk, hown, hne⟩ := h1
  rw [Lib.byteCells_length] at hown
  have c0 : w1.cell? ⟨b, 0, none⟩ = some (.pointer (some ⟨b, 0, none⟩)) := by rw [Lib.cell_of_heap hbk]; rfl
  have c1 : w1.cell? ⟨b, 1, none⟩ = some v := by rw [Lib.cell_of_heap hbk]; rfl
  go_wp2_with (at_builtin; refine Lib.wpList_append_own_string _ rfl _ _ 22 9 rfl B 5 i0 Tryz.underlying22 Tryz.underlying9 hi hz0 hz1 hz2 _ _ _ rfl hown s rfl ?c3 ?c4 ?c5 ?_)
  case c3 => unfold maxLen; omega
  case c4 => omega
  case c5 => have := hb1.size; omega
  intro v' w2 hown' hgrow _
  have hb2 : w2.heap[b]? = some (.cells #[.pointer (some ⟨b, 0, none⟩), v] 200 (0, 0)) := by
    rw [hgrow.block b hlt (fun e => hne e.symm)]
    exact hbk
  have d0 : w2.cell? ⟨b, 0, none⟩ = some (.pointer (some ⟨b, 0, none⟩)) := by rw [Lib.cell_of_heap hb2]; rfl
  have d1 : w2.cell? ⟨b, 1, none⟩ = some v := by rw [Lib.cell_of_heap hb2]; rfl
  have f1 : w2.frozen? ⟨b, 1, none⟩ = false := Lib.frozen_of_heap hb2 1
  obtain ⟨ao, n', cap, rfl⟩ : ∃ ao n' cap, v' = .slice ao n' cap := by
    rcases hown'.2 with ⟨hv, _⟩ | ⟨g, cap, cur, hv, _⟩
    · exact ⟨_, _, _, hv⟩
    · exact ⟨_, _, _, hv⟩
  go_wp2
  go_ret2
  refine ⟨rfl, .inr ?_, ?_⟩
  · refine Lib.BuilderAt.put (T := 200) (e := 5) hB hb2 (bs' := Lib.byteCells (l ++ s.data.toList)) ?_ (by decide)
    rw [Lib.byteCells_length, List.length_append, Lib.byteCells_append, ← strCells_bytes, show s.data.toList.length = s.size from Array.length_toList]
    exact hown'
  · exact (hb1.grown hgrow (by have := hb1.size; omega) (fun k hk => (hown.lt k hk).1)).setCell (p := ⟨b, 1, none⟩) hB _
end Go.Proofs.YtcgmokjnjmefpaaGreatDoor
namespace Go.Proofs.YtcgmokjnjmefpaaGreatDoor
open Go.RowKit M
set_option linter.unusedVariables false

/-- What a byte is told as, where it does not stand as it is. -/
def escW (c : UInt8) : ByteArray :=
  if c = 38 then ⟨#[38, 97, 109, 112, 59]⟩ else if c = 60 then ⟨#[38, 108, 116, 59]⟩ else if c = 62 then ⟨#[38, 103, 116, 59]⟩ else if c = 34 then ⟨#[38, 113, 117, 111, 116, 59]⟩ else ⟨#[]⟩

theorem escW_ways (c : UInt8) : (escW c = ⟨#[]⟩ ∧ escB c = [c]) ∨ (escW c = ⟨#[38, 97, 109, 112, 59]⟩ ∧ escB c = [38, 97, 109, 112, 59]) ∨ (escW c = ⟨#[38, 108, 116, 59]⟩ ∧ escB c = [38, 108, 116, 59]) ∨ (escW c = ⟨#[38, 103, 116, 59]⟩ ∧ escB c = [38, 103, 116, 59]) ∨ (escW c = ⟨#[38, 113, 117, 111, 116, 59]⟩ ∧ escB c = [38, 113, 117, 111, 116, 59]) := by
  unfold escW escB
  by_cases h1 : c = 38
  · simp [h1]
  by_cases h2 : c = 60
  · simp [h2]
  by_cases h3 : c = 62
  · simp [h3]
  by_cases h4 : c = 34
  · simp [h4]
  · simp [h1, h2, h3, h4]

theorem ret_strB {a b : ByteArray} (h : a = b) : Ending.returned (.string a) = .returned (.string b) := by rw [h]

set_option maxHeartbeats 1000000 in
theorem escaped_any (c : UInt8) (w : World) :
    Calls Tryz.prog 154 #[.int .u8 c.toNat] w fun e w' => e = .returned (.string (escW c)) ∧ w' = w := by
  have e1 := is_u8 c 38 38 rfl
  have e2 := is_u8 c 60 60 rfl
  have e3 := is_u8 c 62 62 rfl
  have e4 := is_u8 c 34 34 rfl
  by_cases h1 : c = 38
  · have HE : Hid (escW c = ⟨#[38, 97, 109, 112, 59]⟩) := by show escW c = _; simp [escW, h1]
    rw [decide_eq_true h1] at e1
    clear h1 e2 e3 e4
    go_enter Tryz.func154, Tryz.ntmps154
    go_wp2
    go_ret
    exact ⟨ret_strB HE.out.symm, rfl⟩
  rw [decide_eq_false h1] at e1
  by_cases h2 : c = 60
  · have HE : Hid (escW c = ⟨#[38, 108, 116, 59]⟩) := by show escW c = _; simp [escW, h2]
    rw [decide_eq_true h2] at e2
    clear h1 h2 e3 e4
    go_enter Tryz.func154, Tryz.ntmps154
    go_wp2
    go_ret
    exact ⟨ret_strB HE.out.symm, rfl⟩
  rw [decide_eq_false h2] at e2
  by_cases h3 : c = 62
  · have HE : Hid (escW c = ⟨#[38, 103, 116, 59]⟩) := by show escW c = _; simp [escW, h3]
    rw [decide_eq_true h3] at e3
    clear h1 h2 h3 e4
    go_enter Tryz.func154, Tryz.ntmps154
    go_wp2
    go_ret
    exact ⟨ret_strB HE.out.symm, rfl⟩
  rw [decide_eq_false h3] at e3
  by_cases h4 : c = 34
  · have HE : Hid (escW c = ⟨#[38, 113, 117, 111, 116, 59]⟩) := by show escW c = _; simp [escW, h4]
    rw [decide_eq_true h4] at e4
    clear h1 h2 h3 h4
    go_enter Tryz.func154, Tryz.ntmps154
    go_wp2
    go_ret
    exact ⟨ret_strB HE.out.symm, rfl⟩
  rw [decide_eq_false h4] at e4
  have HE : Hid (escW c = ⟨#[]⟩) := by show escW c = _; simp [escW, h1, h2, h3, h4]
  clear h1 h2 h3 h4
  go_enter Tryz.func154, Tryz.ntmps154
  go_wp2
  go_ret
  exact ⟨ret_strB HE.out.symm, rfl⟩

set_option maxHeartbeats 2000000 in
theorem escape_any (s : ByteArray) (w : World) (hs : s.size ≤ 1099511627776) :
    Calls Tryz.prog 117 #[.string s] w fun e w' => e = .returned (.string (bytesOf (escL s.data.toList))) ∧ Below w.heap.size w w' := by
  go_enter Tryz.func117, Tryz.ntmps117
  go_wp2
  go_loopw [4] (fun i wr => ∃ k : Nat, k ≤ s.size ∧ i = .int .i64 k ∧ (escL (s.data.toList.take k)).length ≤ 6 * k ∧ Lib.IsBuilder 200 5 w.heap.size w.heap.size (Lib.byteCells (escL (s.data.toList.take k))) wr ∧ Below w.heap.size w wr) (fun i _ => s.size - (intOf i).toNat)
  case atStart => exact ⟨0, Nat.zero_le _, rfl, Nat.zero_le _, Lib.fresh_isBuilder _ _ w, (Below.refl _ _).alloc (Nat.le_refl _) _⟩
  case round =>
    obtain ⟨k, hk, rfl, hn6, hI, hbe⟩ := hrel
    by_cases hlt : k < s.size
    · have HL : Hid (escL (s.data.toList.take (k + 1)) = escL (s.data.toList.take k) ++ escB s[k]) := escL_snoc s k hlt
      have HK : Hid ((escL (s.data.toList.take (k + 1))).length ≤ 6 * (k + 1)) := by
        have h3 := escB_length s[k]
        show (escL (s.data.toList.take (k + 1))).length ≤ 6 * (k + 1)
        rw [HL.out, List.length_append]; omega
      have hw5 := escW_ways s[k]
      have HEs : Hid (∀ W : World, Calls Tryz.prog 154 #[.int .u8 (s[k]).toNat] W fun e w' => e = .returned (.string (escW s[k])) ∧ w' = W) := fun W => escaped_any s[k] W
      rcases hw5 with ⟨hw, hb⟩ | ⟨hw, hb⟩ | ⟨hw, hb⟩ | ⟨hw, hb⟩ | ⟨hw, hb⟩
      · rw [hw] at HEs
        have HB := hb
        rw [HB] at HL
        clear hw hb HB
        go_wp2_with fail
        refine (HEs.out wr).mono ?_
        rintro e w1 ⟨rfl, hw1⟩
        obtain rfl := hw1.symm
        go_wp2_with fail
        refine (writeByte_any w.heap.size w.heap.size _ s[k] wr hI (by omega) hbe.size).mono ?_
        rintro e w2 ⟨rfl, I2, b2⟩
        rw [← HL.out] at I2
        go_wp2
        go_roundw
        case rel => exact ⟨k + 1, by omega, by go_num, HK.out, I2, hbe.trans b2⟩
        case measure => simp [intOf]; omega
      all_goals
        rw [hw] at HEs
        rw [hb] at HL
        clear hw hb
        go_wp2_with fail
        refine (HEs.out wr).mono ?_
        rintro e w1 ⟨rfl, hw1⟩
        obtain rfl := hw1.symm
        go_wp2_with fail
        refine (writeString_any w.heap.size w.heap.size _ _ wr hI (by have : ∀ n, n ≤ 6 → (escL (s.data.toList.take k)).length + n ≤ 140737488355328 := fun n hn => by omega
                                                                      exact this _ (by decide)) hbe.size).mono ?_
        rintro e w2 ⟨rfl, I2, b2⟩
        have I3 : Lib.IsBuilder 200 5 w.heap.size w.heap.size (Lib.byteCells (escL (s.data.toList.take (k + 1)))) w2 := by rw [HL.out]; exact I2
        clear I2
        go_wp2
        go_roundw
        case rel => exact ⟨k + 1, by omega, by go_num, HK.out, I3, hbe.trans b2⟩
        case measure => simp [intOf]; omega
    · go_wp2_with fail
      refine (Tryz.Builder_String_any w.heap.size w.heap.size _ wr hI hbe.size).mono ?_
      rintro e w1 ⟨rfl, b1⟩
      go_wp2
      go_ret
      exact ⟨ret_strB (by rw [take_all s k hlt]; rfl), hbe.trans b1⟩
end Go.Proofs.YtcgmokjnjmefpaaGreatDoor
namespace Go.Proofs.YtcgmokjnjmefpaaGreatDoor
open Go.RowKit

theorem assert_same {w : World} {t xt : TypeId} {fs : Array Field} {v : Value} (hu : Tryz.prog.underlying t = some (.struct fs)) :
    (Instr.typeAssert (.iface t v) xt t true).run Tryz.prog w = .ok (.tuple #[v, .bool true]) w := by
  simp [Instr.typeAssert, run_underlying hu]
theorem assert_other {w : World} {t u xt : TypeId} {fs : Array Field} {v z : Value} (hu : Tryz.prog.underlying u = some (.struct fs)) (hne : t ≠ u) (hz : (Tryz.prog.info? u).map (·.zero) = some (some z)) :
    (Instr.typeAssert (.iface t v) xt u true).run Tryz.prog w = .ok (.tuple #[z, .bool false]) w := by
  obtain ⟨j, hj, hz'⟩ := Option.map_eq_some_iff.1 hz
  simp [Instr.typeAssert, run_underlying hu, hne, typeInfo, zeroValue, hj, hz']

def zOpen : Value := .agg #[.string ⟨#[]⟩, .bool false, .string ⟨#[]⟩]
def zOne : Value := .agg #[.string ⟨#[]⟩]
theorem is_open (v : Value) (xt : TypeId) (w : World) : (Instr.typeAssert (.iface 160 v) xt 160 true).run Tryz.prog w = .ok (.tuple #[v, .bool true]) w := assert_same Tryz.underlying160
theorem is_close (v : Value) (xt : TypeId) (w : World) : (Instr.typeAssert (.iface 163 v) xt 163 true).run Tryz.prog w = .ok (.tuple #[v, .bool true]) w := assert_same Tryz.underlying163
theorem is_empty (v : Value) (xt : TypeId) (w : World) : (Instr.typeAssert (.iface 164 v) xt 164 true).run Tryz.prog w = .ok (.tuple #[v, .bool true]) w := assert_same Tryz.underlying164
theorem is_text (v : Value) (xt : TypeId) (w : World) : (Instr.typeAssert (.iface 166 v) xt 166 true).run Tryz.prog w = .ok (.tuple #[v, .bool true]) w := assert_same Tryz.underlying166
theorem not_open {t : TypeId} (h : t ≠ 160) (v : Value) (xt : TypeId) (w : World) : (Instr.typeAssert (.iface t v) xt 160 true).run Tryz.prog w = .ok (.tuple #[zOpen, .bool false]) w := assert_other Tryz.underlying160 h (by kernel_rfl)
theorem not_close {t : TypeId} (h : t ≠ 163) (v : Value) (xt : TypeId) (w : World) : (Instr.typeAssert (.iface t v) xt 163 true).run Tryz.prog w = .ok (.tuple #[zOne, .bool false]) w := assert_other Tryz.underlying163 h (by kernel_rfl)
theorem not_empty {t : TypeId} (h : t ≠ 164) (v : Value) (xt : TypeId) (w : World) : (Instr.typeAssert (.iface t v) xt 164 true).run Tryz.prog w = .ok (.tuple #[zOpen, .bool false]) w := assert_other Tryz.underlying164 h (by kernel_rfl)
end Go.Proofs.YtcgmokjnjmefpaaGreatDoor
namespace Go.Proofs.YtcgmokjnjmefpaaGreatDoor
open Go.RowKit M
set_option linter.unusedVariables false

/-- A piece's text, of its parts. -/
def spT (has : Bool) (ns : List UInt8) : List UInt8 := if has then spcS ++ escL ns ++ [34] else []
theorem ret_val {a b : Value} (h : a = b) : Ending.returned a = .returned b := by rw [h]
theorem isI (k z : Int) : (k == z) = decide (k = z) := by rw [Bool.eq_iff_iff]; simp

set_option maxHeartbeats 2000000 in
theorem markOf_any (p : Pce) (w : World) :
    Calls Tryz.prog 76 #[.agg #[.int .i64 p.k, .string p.name, .string p.ns, .bool p.has, .string p.s]] w fun e w' => e = .returned (markV p) ∧ Below w.heap.size w w' := by
  obtain ⟨k, name, ns, has, s⟩ := p
  have e1 := isI k 1
  have e2 := isI k 2
  have e3 := isI k 3
  by_cases h1 : k = 1
  · have HV := hide (show Value.iface 160 (.agg #[.string name, .bool has, .string ns]) = markV ⟨k, name, ns, has, s⟩ by simp [markV, h1])
    rw [decide_eq_true h1] at e1
    clear h1 e2 e3
    go_enter Tryz.func76, Tryz.ntmps76
    go_wp2
    go_ret
    exact ⟨ret_val HV.out, (Below.refl _ _).alloc (Nat.le_refl _) _⟩
  rw [decide_eq_false h1] at e1
  by_cases h2 : k = 2
  · have HV := hide (show Value.iface 163 (.agg #[.string name]) = markV ⟨k, name, ns, has, s⟩ by simp [markV, h2])
    rw [decide_eq_true h2] at e2
    clear h1 h2 e3
    go_enter Tryz.func76, Tryz.ntmps76
    go_wp2
    go_ret
    exact ⟨ret_val HV.out, (Below.refl _ _).alloc (Nat.le_refl _) _⟩
  rw [decide_eq_false h2] at e2
  by_cases h3 : k = 3
  · have HV := hide (show Value.iface 164 (.agg #[.string name, .bool has, .string ns]) = markV ⟨k, name, ns, has, s⟩ by simp [markV, h3])
    rw [decide_eq_true h3] at e3
    clear h1 h2 h3
    go_enter Tryz.func76, Tryz.ntmps76
    go_wp2
    go_ret
    exact ⟨ret_val HV.out, (Below.refl _ _).alloc (Nat.le_refl _) _⟩
  rw [decide_eq_false h3] at e3
  have HV := hide (show Value.iface 166 (.agg #[.string s]) = markV ⟨k, name, ns, has, s⟩ by simp [markV, h1, h2, h3])
  clear h1 h2 h3
  go_enter Tryz.func76, Tryz.ntmps76
  go_wp2
  go_ret
  exact ⟨ret_val HV.out, (Below.refl _ _).alloc (Nat.le_refl _) _⟩

theorem spc_join (l : List UInt8) : (⟨#[32, 120, 109, 108, 110, 115, 61, 34]⟩ : ByteArray) ++ bytesOf l ++ ⟨#[34]⟩ = bytesOf (spcS ++ l ++ [34]) := by
  apply ByteArray.ext
  simp [bytesOf, spcS]
theorem spT_len (has : Bool) (ns : List UInt8) : (spT has ns).length ≤ 9 + 6 * ns.length := by
  have := escL_le ns
  unfold spT
  split
  · simp [spcS]; omega
  · simp

set_option maxHeartbeats 2000000 in
theorem spaceText_any (has : Bool) (ns : ByteArray) (w : World) (hs : ns.size ≤ 1099511627776) :
    Calls Tryz.prog 116 #[.agg #[.bool has, .string ns]] w fun e w' => e = .returned (.string (bytesOf (spT has ns.data.toList))) ∧ Below w.heap.size w w' := by
  cases has
  · have HR := hide (show (⟨#[]⟩ : ByteArray) = bytesOf (spT false ns.data.toList) from rfl)
    go_enter Tryz.func116, Tryz.ntmps116
    go_wp2
    go_ret
    exact ⟨ret_strB HR.out, (Below.refl _ _).alloc (Nat.le_refl _) _⟩
  · have HR := hide (spc_join (escL ns.data.toList))
    have hz : (bytesOf (escL ns.data.toList)).size ≤ 6 * ns.size := by
      rw [bytesOf_size]
      have h1 := escL_le ns.data.toList
      have h2 : ns.data.toList.length = ns.size := Array.length_toList
      omega
    have HE := hide (fun W : World => escape_any ns W hs)
    obtain ⟨x, hx⟩ : ∃ x, bytesOf (escL ns.data.toList) = x := ⟨_, rfl⟩
    rw [hx] at HR hz HE
    have q1 : ¬ (9223372036854775807 < 8 + x.size) := by omega
    have q2 : ¬ (9223372036854775807 < 8 + x.size + 1) := by omega
    clear hx
    go_enter Tryz.func116, Tryz.ntmps116
    go_wp2_with fail
    refine (HE.out _).mono ?_
    rintro e w1 ⟨rfl, b1⟩
    go_wp2
    go_ret
    exact ⟨ret_strB (by rw [HR.out]; rfl), ((Below.refl _ _).alloc (Nat.le_refl _) _).trans (b1.mono (by simp))⟩

theorem open_join (n : ByteArray) (x : List UInt8) : (⟨#[60]⟩ : ByteArray) ++ n ++ bytesOf x ++ ⟨#[62]⟩ = bytesOf ([60] ++ n.data.toList ++ x ++ [62]) := by
  apply ByteArray.ext
  simp [bytesOf]
theorem empty_join (n : ByteArray) (x : List UInt8) : (⟨#[60]⟩ : ByteArray) ++ n ++ bytesOf x ++ ⟨#[47, 62]⟩ = bytesOf ([60] ++ n.data.toList ++ x ++ [47, 62]) := by
  apply ByteArray.ext
  simp [bytesOf]
theorem close_join (n : ByteArray) : (⟨#[60, 47]⟩ : ByteArray) ++ n ++ ⟨#[62]⟩ = bytesOf ([60, 47] ++ n.data.toList ++ [62]) := by
  apply ByteArray.ext
  simp [bytesOf]

set_option maxRecDepth 100000 in
set_option maxHeartbeats 2000000 in
theorem markText_open (name ns : ByteArray) (has : Bool) (w : World) (hn : name.size ≤ 1099511627776) (hs : ns.size ≤ 1099511627776) :
    Calls Tryz.prog 75 #[.iface 160 (.agg #[.string name, .bool has, .string ns])] w fun e w' => e = .returned (.string (bytesOf ([60] ++ name.data.toList ++ spT has ns.data.toList ++ [62]))) ∧ Below w.heap.size w w' := by
  have HR := hide (open_join name (spT has ns.data.toList))
  have hz : (bytesOf (spT has ns.data.toList)).size ≤ 9 + 6 * ns.size := by
    rw [bytesOf_size]
    have h1 := spT_len has ns.data.toList
    have h2 : ns.data.toList.length = ns.size := Array.length_toList
    omega
  have HE := hide (fun W : World => spaceText_any has ns W hs)
  obtain ⟨x, hx⟩ : ∃ x, bytesOf (spT has ns.data.toList) = x := ⟨_, rfl⟩
  rw [hx] at HR hz HE
  have q1 : ¬ (9223372036854775807 < 1 + name.size) := by omega
  have q2 : ¬ (9223372036854775807 < 1 + name.size + x.size) := by omega
  have q3 : ¬ (9223372036854775807 < 1 + name.size + x.size + 1) := by omega
  clear hx
  have t1 := is_open (.agg #[.string name, .bool has, .string ns]) 118 w
  go_enter Tryz.func75, Tryz.ntmps75
  go_wp2
  go_region_held3 (fun W => W.cell? ⟨w.heap.size, 0, none⟩ = some (.string name) ∧ W.cell? ⟨w.heap.size, 1, none⟩ = some (.bool has) ∧ W.cell? ⟨w.heap.size, 2, none⟩ = some (.string ns)) (first | go_keep | exact ⟨(b1.cell (p := ⟨w.heap.size, 0, none⟩) (by simp)).trans (by simp), (b1.cell (p := ⟨w.heap.size, 1, none⟩) (by simp)).trans (by simp), (b1.cell (p := ⟨w.heap.size, 2, none⟩) (by simp)).trans (by simp)⟩) ((go_at_call 116; refine (HE.out _).mono ?_; rintro e w1 ⟨rfl, b1⟩))
  go_wp2
  go_ret
  exact ⟨ret_strB HR.out, ((Below.refl _ _).alloc (Nat.le_refl _) _).drew.trans (b1.mono (by simp))⟩

set_option maxRecDepth 100000 in
set_option maxHeartbeats 2000000 in
theorem markText_empty (name ns : ByteArray) (has : Bool) (w : World) (hn : name.size ≤ 1099511627776) (hs : ns.size ≤ 1099511627776) :
    Calls Tryz.prog 75 #[.iface 164 (.agg #[.string name, .bool has, .string ns])] w fun e w' => e = .returned (.string (bytesOf ([60] ++ name.data.toList ++ spT has ns.data.toList ++ [47, 62]))) ∧ Below w.heap.size w w' := by
  have HR := hide (empty_join name (spT has ns.data.toList))
  have hz : (bytesOf (spT has ns.data.toList)).size ≤ 9 + 6 * ns.size := by
    rw [bytesOf_size]
    have h1 := spT_len has ns.data.toList
    have h2 : ns.data.toList.length = ns.size := Array.length_toList
    omega
  have HE := hide (fun W : World => spaceText_any has ns W hs)
  obtain ⟨x, hx⟩ : ∃ x, bytesOf (spT has ns.data.toList) = x := ⟨_, rfl⟩
  rw [hx] at HR hz HE
  have q1 : ¬ (9223372036854775807 < 1 + name.size) := by omega
  have q2 : ¬ (9223372036854775807 < 1 + name.size + x.size) := by omega
  have q3 : ¬ (9223372036854775807 < 1 + name.size + x.size + 2) := by omega
  clear hx
  have t1 := not_open (t := 164) (by decide) (.agg #[.string name, .bool has, .string ns]) 118 w
  have t2 := not_close (t := 164) (by decide) (.agg #[.string name, .bool has, .string ns]) 118 w
  have t3 := is_empty (.agg #[.string name, .bool has, .string ns]) 118 w
  go_enter Tryz.func75, Tryz.ntmps75
  go_wp2
  go_region_held3 (fun W => W.cell? ⟨w.heap.size, 0, none⟩ = some (.string name) ∧ W.cell? ⟨w.heap.size, 1, none⟩ = some (.bool has) ∧ W.cell? ⟨w.heap.size, 2, none⟩ = some (.string ns)) (first | go_keep | exact ⟨(b1.cell (p := ⟨w.heap.size, 0, none⟩) (by simp)).trans (by simp), (b1.cell (p := ⟨w.heap.size, 1, none⟩) (by simp)).trans (by simp), (b1.cell (p := ⟨w.heap.size, 2, none⟩) (by simp)).trans (by simp)⟩) ((go_at_call 116; refine (HE.out _).mono ?_; rintro e w1 ⟨rfl, b1⟩))
  go_wp2
  go_ret
  exact ⟨ret_strB HR.out, ((Below.refl _ _).alloc (Nat.le_refl _) _).drew.trans (b1.mono (by simp))⟩

set_option maxRecDepth 100000 in
set_option maxHeartbeats 2000000 in
theorem markText_close (name : ByteArray) (w : World) (hn : name.size ≤ 1099511627776) :
    Calls Tryz.prog 75 #[.iface 163 (.agg #[.string name])] w fun e w' => e = .returned (.string (bytesOf ([60, 47] ++ name.data.toList ++ [62]))) ∧ Below w.heap.size w w' := by
  have HR := hide (close_join name)
  have q1 : ¬ (9223372036854775807 < 2 + name.size) := by omega
  have q2 : ¬ (9223372036854775807 < 2 + name.size + 1) := by omega
  have t1 := not_open (t := 163) (by decide) (.agg #[.string name]) 118 w
  have t2 := is_close (.agg #[.string name]) 118 w
  go_enter Tryz.func75, Tryz.ntmps75
  go_wp2
  go_ret
  exact ⟨ret_strB HR.out, (Below.refl _ _).alloc (Nat.le_refl _) _⟩

set_option maxRecDepth 100000 in
set_option maxHeartbeats 2000000 in
theorem markText_text (s : ByteArray) (w : World) (hs : s.size ≤ 1099511627776) :
    Calls Tryz.prog 75 #[.iface 166 (.agg #[.string s])] w fun e w' => e = .returned (.string (bytesOf (escL s.data.toList))) ∧ Below w.heap.size w w' := by
  have HE := hide (fun W : World => escape_any s W hs)
  have t1 := not_open (t := 166) (by decide) (.agg #[.string s]) 118 w
  have t2 := not_close (t := 166) (by decide) (.agg #[.string s]) 118 w
  have t3 := not_empty (t := 166) (by decide) (.agg #[.string s]) 118 w
  have t4 := is_text (.agg #[.string s]) 118 w
  go_enter Tryz.func75, Tryz.ntmps75
  go_wp2_with fail
  refine (HE.out _).mono ?_
  rintro e w1 ⟨rfl, b1⟩
  go_wp2
  go_ret
  exact ⟨rfl, ((Below.refl _ _).alloc (Nat.le_refl _) _).trans (b1.mono (by simp))⟩

/-- How great a piece may be. -/
def FitP (p : Pce) : Prop := p.name.size ≤ 1099511627776 ∧ p.ns.size ≤ 1099511627776 ∧ p.s.size ≤ 1099511627776

theorem mkText_any (p : Pce) (w : World) (h : FitP p) :
    Calls Tryz.prog 75 #[markV p] w fun e w' => e = .returned (.string (bytesOf (markT p))) ∧ Below w.heap.size w w' := by
  obtain ⟨h1, h2, h3⟩ := h
  unfold markV markT
  by_cases k1 : p.k = 1
  · rw [if_pos k1, if_pos k1]; exact markText_open p.name p.ns p.has w h1 h2
  rw [if_neg k1, if_neg k1]
  by_cases k2 : p.k = 2
  · rw [if_pos k2, if_pos k2]; exact markText_close p.name w h1
  rw [if_neg k2, if_neg k2]
  by_cases k3 : p.k = 3
  · rw [if_pos k3, if_pos k3]; exact markText_empty p.name p.ns p.has w h1 h2
  rw [if_neg k3, if_neg k3]
  exact markText_text p.s w h3

set_option maxRecDepth 100000 in
set_option maxHeartbeats 2000000 in
theorem pieceText_any (p : Pce) (w : World) (h : FitP p) :
    Calls Tryz.prog 34 #[.agg #[.int .i64 p.k, .string p.name, .string p.ns, .bool p.has, .string p.s]] w fun e w' => e = .returned (.string (bytesOf (markT p))) ∧ Below w.heap.size w w' := by
  have HM := hide (fun W : World => markOf_any p W)
  have HT := hide (fun W : World => mkText_any p W h)
  obtain ⟨v, hv⟩ : ∃ v, markV p = v := ⟨_, rfl⟩
  rw [hv] at HM HT
  clear hv
  go_enter Tryz.func34, Tryz.ntmps34
  go_wp2_with fail
  refine (HM.out _).mono ?_
  rintro e w1 ⟨rfl, b1⟩
  have c1 : Below w.heap.size w w1 := ((Below.refl _ _).alloc (Nat.le_refl _) _).trans (b1.mono (by simp))
  go_wp2_with fail
  refine (HT.out _).mono ?_
  rintro e w2 ⟨rfl, b2⟩
  go_wp2
  go_ret
  exact ⟨rfl, c1.trans (b2.mono c1.size)⟩
end Go.Proofs.YtcgmokjnjmefpaaGreatDoor
namespace Go.Proofs.YtcgmokjnjmefpaaGreatDoor
open Go.RowKit

/-- What the walk is told of a slice of integers that came in: it is nil; or it leads to a row of 'cap' cells, the numbers 'zs' (the first 'len' are its elements), each fitting its kind. -/
def IsRow (k : IntKind) (w : World) (a : Option Addr) (len cap : Nat) (zs : List Int) : Prop :=
  (a = none ∧ len = 0 ∧ cap = 0 ∧ zs = []) ∨
  ∃ x, a = some x ∧ len ≤ cap ∧ cap ≤ maxLen ∧ zs.length = cap ∧ (∀ i, i < zs.length → w.cell? (x.add i) = some (.int k (zs.getD i 0))) ∧ ∀ n ∈ zs, (Lit.int k n).wf = true
end Go.Proofs.YtcgmokjnjmefpaaGreatDoor
namespace Go.Proofs.YtcgmokjnjmefpaaGreatDoor
open Go.RowKit
set_option linter.unusedVariables false

set_option maxHeartbeats 400000 in
theorem big_any (a : Option Addr) (len cap : Nat) (w : World) (_hl : len ≤ maxLen) :
    Calls Tryz.prog 7 #[.slice a len cap] w fun e w' => e = .returned (.bool (decide ((1048576 : Int) < len))) ∧ w' = w := by
  unfold maxLen at _hl
  go_enter Tryz.func7, Tryz.ntmps7
  go_wp2
  go_ret
  exact ⟨rfl, rfl⟩

theorem row_len {w : World} {a : Option Addr} {len cap : Nat} {zs : List Int} (h : IsRow .u8 w a len cap zs) : len ≤ maxLen := by
  rcases h with ⟨_, rfl, _, _⟩ | ⟨x, _, hl, hm, _⟩
  · exact Nat.zero_le _
  · omega
end Go.Proofs.YtcgmokjnjmefpaaGreatDoor
namespace Go.Proofs.YtcgmokjnjmefpaaGreatDoor
open Go.RowKit M

theorem code_of_row {w : World} {a : Option Addr} {len cap : Nat} {zs : List Int} (h : IsRow .u8 w a len cap zs) (hlen : len ≤ 1048576) : CodeIn w w.heap.size a len zs := by
  rcases h with ⟨rfl, rfl, rfl, rfl⟩ | ⟨x, rfl, hl, hm, hz, hcell, hwz⟩
  · exact ⟨⟨Nat.le_refl _, fun j hj => absurd hj (Nat.not_lt_zero _), fun h => absurd h (Nat.lt_irrefl _)⟩, fun h => absurd h (Nat.lt_irrefl _), hlen, Nat.le_refl _⟩
  · obtain ⟨b, off, spot⟩ := x
    by_cases h0 : 0 < len
    · have hc := hcell 0 (by omega)
      have hspot : spot = none := by simpa [Addr.add] using World.cell?_spot hc
      subst hspot
      have hb : b < w.heap.size := by
        have := World.block_lt_of_cell? w _ hc
        simpa [Addr.add] using this
      refine ⟨⟨by omega, fun j hj => ?_, fun _ => ⟨b, off, rfl, fun j hj => ?_⟩⟩, fun _ b' off' e => ?_, hlen, Nat.le_refl _⟩
      · have hj' : j < zs.length := by omega
        refine bounds_u8 (hwz _ ?_)
        rw [List.getD_eq_getElem?_getD, List.getElem?_eq_getElem hj']
        exact List.getElem_mem hj'
      · have h1 := hcell j (by omega)
        have e : (⟨b, off, none⟩ : Addr).add j = ⟨b, off + j, none⟩ := by unfold Addr.add; split <;> simp_all
        rwa [e] at h1
      · cases e; exact hb
    · exact ⟨⟨by omega, fun j hj => absurd hj (by omega), fun h => absurd h h0⟩, fun h => absurd h h0, hlen, Nat.le_refl _⟩
end Go.Proofs.YtcgmokjnjmefpaaGreatDoor
