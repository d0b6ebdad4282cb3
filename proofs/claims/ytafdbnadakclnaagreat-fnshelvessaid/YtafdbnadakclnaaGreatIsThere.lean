/-
  Which paths are left over; a map of their texts.
  What impl.lacking does.
  What the program's allOf does: whether all bytes of a text are of one of these kinds.
  What the program's Plain does.
  What SmallName (the program's) does.
  What impl.propOk, cmp.Or[int] and impl.lessProp do.
  What impl.lessProp does.
  What impl.ascending over what is known and impl.PropsOk do.
  What impl.verOk, impl.resOk, impl.lessRes and impl.ascending over things do.
  What impl.TreeOk does.
  What impl.FindRes does.
  What impl.isThere does.
-/
import Derived.Test.YtafdbnadakclnaaGreatPathTextI
import Derived.Test.YtafdbnadakclnaaGreatMathTree
import Derived.Test.YtafdbnadakclnaaGreatKinds
import Derived.Test.YtafdbnadakclnaaGreatEqBs
import Derived.Test.YtafdbnadakclnaaGreatDrawC
import Derived.Test.YtafdbnadakclnaaGreatCompare
import Derived.Deep.RegionHeld3
import Derived.Test.YtafdbnadakclnaaGreatLess
import Derived.Test.YtafdbnadakclnaaGreatSpecLess
import Derived.Test.YtafdbnadakclnaaGreatMathPath
import Derived.Test.YtafdbnadakclnaaGreatIsDeep
namespace Go.Proofs.YtafdbnadakclnaaGreat
open Go.RowKit Go.Maps M
open Go.WideMaps (keyOf_string_mk)
set_option linter.unusedVariables false

theorem lawStr : Keyed Tryz.prog 9 := string_keyed Tryz.underlying9
theorem zeroInt (w : World) : (zeroValue 3).run Tryz.prog w = .ok (.int .i64 0) w := by kernel_rfl
/-- The map of a call, behind a call that only made memory. -/
theorem own_below {w w' : World} {b n : Nat} {D : DataW Unit} (h : w.ownsMap Tryz.prog 9 (plainElem Tryz.prog 3) b n D) (hb : Below w.heap.size w w') : w'.ownsMap Tryz.prog 9 (plainElem Tryz.prog 3) b n D :=
  h.kept (row := none) ⟨hb.os, hb.tape, hb.output, hb.size, fun k hk _ => hb.block k hk⟩ (by simp)
theorem pt_size (p : List ByteArray) : (pt p).size ≤ maxLen := by
  have := ptextL_len (ss := p)
  have e : (pt p).size = (ptextL p).length := by unfold pt; rw [bytesOf_size]
  rw [e]; unfold maxLen; omega
theorem pt_key (p : List ByteArray) : keyOf Tryz.prog 9 (.string (pt p)) = some (.string (pt p).data.toList) := keyOf_string_mk Tryz.underlying9 (pt_size p)
theorem name_size {p : List ByteArray} (h : pathB p = true) : ∀ s ∈ p, s.size ≤ 8 := fun s hs => nameB_size (pathB_all h s hs)
theorem short_path {p : List ByteArray} (h : pathB p = true) : Short p := fun s hs => by have := name_size h s hs; unfold maxLen; omega

def P1 (rs : List Rs) (k : Nat) (s : ByteArray) : Prop := ∃ r ∈ rs.take k, s = pt (aboveL r.pa)
def P2 (rs : List Rs) (k : Nat) (s : ByteArray) : Prop := ((∃ r ∈ rs, s = pt (aboveL r.pa)) ∧ s ≠ pt []) ∧ ∀ r ∈ rs.take k, r.co = true → s ≠ pt r.pa
theorem P1_next {rs : List Rs} {k : Nat} (hk : k < rs.length) (s : ByteArray) : (s = pt (aboveL rs[k].pa) ∨ P1 rs k s) ↔ P1 rs (k + 1) s := by
  unfold P1
  rw [List.take_succ_eq_append_getElem hk]
  constructor
  · rintro (h | ⟨r, hr, h⟩)
    · exact ⟨_, List.mem_append_right _ (List.mem_singleton.2 rfl), h⟩
    · exact ⟨r, List.mem_append_left _ hr, h⟩
  · rintro ⟨r, hr, h⟩
    rcases List.mem_append.1 hr with hr | hr
    · exact .inr ⟨r, hr, h⟩
    · simp at hr; subst hr; exact .inl h
theorem P2_yes {rs : List Rs} {k : Nat} (hk : k < rs.length) (hc : rs[k].co = true) (s : ByteArray) : (P2 rs k s ∧ s ≠ pt rs[k].pa) ↔ P2 rs (k + 1) s := by
  unfold P2
  rw [List.take_succ_eq_append_getElem hk]
  constructor
  · rintro ⟨⟨h1, h2⟩, h3⟩
    refine ⟨h1, fun r hr hc' => ?_⟩
    rcases List.mem_append.1 hr with hr | hr
    · exact h2 r hr hc'
    · simp at hr; subst hr; exact h3
  · rintro ⟨h1, h2⟩
    exact ⟨⟨h1, fun r hr hc' => h2 r (List.mem_append_left _ hr) hc'⟩, h2 _ (List.mem_append_right _ (List.mem_singleton.2 rfl)) hc⟩
theorem P2_no {rs : List Rs} {k : Nat} (hk : k < rs.length) (hc : rs[k].co = false) (s : ByteArray) : P2 rs k s ↔ P2 rs (k + 1) s := by
  unfold P2
  rw [List.take_succ_eq_append_getElem hk]
  constructor
  · rintro ⟨h1, h2⟩
    refine ⟨h1, fun r hr hc' => ?_⟩
    rcases List.mem_append.1 hr with hr | hr
    · exact h2 r hr hc'
    · simp at hr; subst hr; rw [hc] at hc'; cases hc'
  · rintro ⟨h1, h2⟩
    exact ⟨h1, fun r hr hc' => h2 r (List.mem_append_left _ hr) hc'⟩

end Go.Proofs.YtafdbnadakclnaaGreat
namespace Go.Proofs.YtafdbnadakclnaaGreat
open Go.RowKit Go.Maps M
open Go.WideMaps (keyOf_string_mk)
set_option linter.unusedVariables false

set_option maxRecDepth 100000 in
set_option maxHeartbeats 4000000 in
theorem lacking_any (a : Option Addr) (rs : List Rs) (cap B : Nat) (w : World) (h : Rss w B a rs) (hB : B ≤ w.heap.size) (hl : rs.length ≤ 12) (hr : ∀ r ∈ rs, resB r = true) :
    Calls Tryz.prog 66 #[.slice a rs.length cap] w fun e w' => e = .returned (.map (some w.heap.size)) ∧ (∃ n D, w'.ownsMap Tryz.prog 9 (plainElem Tryz.prog 3) w.heap.size n D ∧ Holds D (LeftP rs)) ∧ Below w.heap.size w w' := by
  have hmm := @run_makeMap Tryz.prog
  have HRB := hide hr
  clear hr
  go_enter Tryz.func66, Tryz.ntmps66
  go_wp2
  go_loopw [11] (fun i wr => ∃ (k : Nat) (D : DataW Unit), k ≤ rs.length ∧ i = .int .i64 k ∧ wr.ownsMap Tryz.prog 9 (plainElem Tryz.prog 3) w.heap.size k D ∧ Holds D (P1 rs k) ∧ Below w.heap.size w wr) (fun i _ => rs.length - (intOf i).toNat)
  case atStart => exact ⟨0, .map [], Nat.zero_le _, rfl, World.ownsMap_made _ _ _ _, Holds.nil.same (fun s => ⟨(fun h => h.elim), (fun ⟨r, hr, _⟩ => by simp at hr)⟩), (Below.refl _ _).alloc (Nat.le_refl _) _⟩
  case round =>
    obtain ⟨k, D, hk, rfl, hown, hho, hbe⟩ := hrel
    have HHO := hide hho
    clear hho
    by_cases hlt : k < rs.length
    · obtain ⟨b1, o1, rfl, hb1, hcc⟩ := (h.below hbe hB) (by omega)
      obtain ⟨pa, pc, qa, qc, ⟨hc0, hc1, hc2, hc3, hc4⟩, hin⟩ := hcc k hlt
      clear hcc
      have hrb := HRB.out _ (List.getElem_mem hlt)
      have hpb := resB_path hrb
      have h4 := pathB_len hpb
      have hpa := pathB_above hpb
      have h0 : 0 < rs[k].pa.length := by
        unfold resB at hrb
        simp only [Bool.and_eq_true, decide_eq_true_eq] at hrb
        exact hrb.1
      have HBA := hide ((Below.refl wr.heap.size wr).alloc (Nat.le_refl _) (Obj.cells #[.slice pa (rs[k]).pa.length pc, .bool (rs[k]).co, .string (rs[k]).bo, .int .i64 (rs[k]).ve, .slice qa (rs[k]).ps.length qc] 35))
      have hin2 := hin.below HBA.out (Nat.le_trans hB hbe.size)
      obtain ⟨b2, o2, rfl, _, _⟩ := hin2.ph h0
      have HA := hide (above_any b2 o2 rs[k].pa pc B _ hin2.ph (Nat.le_trans (Nat.le_trans hB hbe.size) HBA.out.size) (by omega) (fun s hs => by have := name_size hpb s hs; omega) hin2.pl hin2.pm)
      have hal : (aboveL rs[k].pa).length ≤ maxLen := by rw [aboveL_len]; unfold maxLen; omega
      have HT := hide (fun W g c (x : RowS W g (aboveL rs[k].pa)) => pathText_any (some ⟨g, 0, none⟩) (aboveL rs[k].pa) c W (x.strs' x.1) (short_path hpa) hal)
      have HN := hide (fun s => P1_next hlt s)
      have hkey := pt_key (aboveL rs[k].pa)
      have hzz : (0 : Nat) < 1 := by omega
      clear hrb hpb hpa h0 hin hin2
      go_wp2_with fail
      refine HA.out.mono ?_
      rintro e w1 ⟨rfl, r1, b3⟩
      have b4 := HBA.out.trans (b3.mono HBA.out.size)
      have r1' : RowS w1 (wr.heap.size + 1) (aboveL rs[k].pa) := by simpa using r1
      have HT1 := hide (HT.out w1 (wr.heap.size + 1) (aboveL rs[k].pa).length r1')
      clear r1 r1' b3 HA HT
      go_wp2_with fail
      refine HT1.out.mono ?_
      rintro e w2 ⟨rfl, b5⟩
      have b6 := b4.trans (b5.mono b4.size)
      have c2 := hbe.trans (b6.mono hbe.size)
      have hown2 := own_below hown b6
      have HK : Hid (keyOf Tryz.prog 9 (.string (bytesOf (ptextL (aboveL rs[k].pa)))) = some (.string (pt (aboveL rs[k].pa)).data.toList)) := hkey
      clear hown b4 b5 b6 HT1 hkey
      go_wp2_with (first
        | (at_lookup; refine wpList_lookup_own_int _ rfl _ _ 80 rfl 9 3 .i64 lawStr Tryz.underlying80 Tryz.underlying3 (zeroInt _) w.heap.size k _ rfl hown2 _ _ rfl HK.out ?_; intro c hat hwc)
        | (at_mapUpdate; refine wpList_mapUpdate_own _ rfl _ _ _ 80 rfl 9 3 lawStr Tryz.underlying80 _ w.heap.size k _ rfl hown2 (by unfold maxLen; omega) _ _ _ rfl rfl HK.out _ [] (plainElem_int Tryz.underlying3 (wrap64_wf _)) ?_; intro w3 hown3 hgrow3))
      go_roundw
      case rel => exact ⟨k + 1, _, by omega, by go_num, hown3, (HHO.out.put (pt (aboveL rs[k].pa)) _).same (HN.out), c2.grown hgrow3 c2.size (fun j hj => by cases hj; exact Nat.le_refl _)⟩
      case measure => simp [intOf]; omega
    · have HN : Hid (∀ s, P1 rs k s ↔ ∃ r ∈ rs, s = pt (aboveL r.pa)) := fun s => by unfold P1; rw [List.take_of_length_le (by omega)]
      have HT := hide (pathText_any none [] 0 wr (fun hh => absurd hh (by simp)) (fun s hs => by cases hs) (Nat.zero_le _))
      have hkey := pt_key []
      go_wp2_with fail
      refine HT.out.mono ?_
      rintro e w2 ⟨rfl, b5⟩
      have c2 := hbe.trans (b5.mono hbe.size)
      have hown2 := own_below hown b5
      have HK : Hid (keyOf Tryz.prog 9 (.string (bytesOf (ptextL []))) = some (.string (pt []).data.toList)) := hkey
      have hho2 := ((HHO.out.del (pt [])).same (Q := P2 rs 0) (fun s => by
        unfold P2
        rw [HN.out s]
        simp))
      have HHO2 := hide hho2
      clear hown b5 hkey hho2 HT HHO
      go_wp2_with (at_delete; refine wpList_delete_own _ rfl _ _ 80 9 rfl 3 lawStr Tryz.underlying80 _ w.heap.size k _ rfl hown2 _ _ rfl HK.out ?_; intro w3 hown3 hturn3)
      have c3 : Below w.heap.size w w3 := c2.grown hturn3.grown c2.size (fun j hj => by cases hj; exact Nat.le_refl _)
      clear hown2 c2 HK hturn3
      go_loopw [27] (fun i wr => ∃ (k n : Nat) (D : DataW Unit), k ≤ rs.length ∧ i = .int .i64 k ∧ wr.ownsMap Tryz.prog 9 (plainElem Tryz.prog 3) w.heap.size n D ∧ Holds D (P2 rs k) ∧ Below w.heap.size w wr) (fun i _ => rs.length - (intOf i).toNat)
      case atStart => exact ⟨0, k, _, Nat.zero_le _, rfl, hown3, HHO2.out, c3⟩
      case round =>
        clear HN
        obtain ⟨k, n, D, hk, rfl, hown, hho, hbe⟩ := hrel
        have HHO := hide hho
        clear hho
        by_cases hlt : k < rs.length
        · obtain ⟨b1, o1, rfl, hb1, hcc⟩ := (h.below hbe hB) (by omega)
          obtain ⟨pa, pc, qa, qc, ⟨hc0, hc1, hc2, hc3, hc4⟩, hin⟩ := hcc k hlt
          clear hcc
          have hpb := resB_path (HRB.out _ (List.getElem_mem hlt))
          have h4 := pathB_len hpb
          have HBA := hide ((Below.refl wr.heap.size wr).alloc (Nat.le_refl _) (Obj.cells #[.slice pa (rs[k]).pa.length pc, .bool (rs[k]).co, .string (rs[k]).bo, .int .i64 (rs[k]).ve, .slice qa (rs[k]).ps.length qc] 35))
          have hin2 := hin.below HBA.out (Nat.le_trans hB hbe.size)
          have HT := hide (pathText_any pa rs[k].pa pc _ (hin2.ph.mono (Nat.le_trans (Nat.le_trans hB hbe.size) HBA.out.size)) (short_path hpb) (by unfold maxLen; omega))
          have hkey := pt_key rs[k].pa
          have HY := hide (fun hc s => P2_yes hlt hc s)
          have HZ := hide (fun hc s => P2_no hlt hc s)
          clear hpb hin hin2
          obtain ⟨z, hz⟩ : ∃ z, rs[k].co = z := ⟨_, rfl⟩
          rw [hz] at hc1 HBA HT
          have HZZ := hide hz
          clear hz
          cases z
          · have hown2 := own_below hown HBA.out
            have c2 := hbe.trans (HBA.out.mono hbe.size)
            go_wp2
            go_roundw
            case rel => exact ⟨k + 1, n, D, by omega, by go_num, hown2, HHO.out.same (HZ.out HZZ.out), c2⟩
            case measure => simp [intOf]; omega
          · go_wp2_with fail
            refine HT.out.mono ?_
            rintro e w2 ⟨rfl, b5⟩
            have b6 := HBA.out.trans (b5.mono HBA.out.size)
            have c2 := hbe.trans (b6.mono hbe.size)
            have hown2 := own_below hown b6
            have HK : Hid (keyOf Tryz.prog 9 (.string (bytesOf (ptextL rs[k].pa))) = some (.string (pt rs[k].pa).data.toList)) := hkey
            clear hown b5 b6 HT hkey
            go_wp2_with (at_delete; refine wpList_delete_own _ rfl _ _ 80 9 rfl 3 lawStr Tryz.underlying80 _ w.heap.size n _ rfl hown2 _ _ rfl HK.out ?_; intro w3 hown3 hturn3)
            go_roundw
            case rel => exact ⟨k + 1, n, _, by omega, by go_num, hown3, (HHO.out.del (pt rs[k].pa)).same (HY.out HZZ.out), c2.grown hturn3.grown c2.size (fun j hj => by cases hj; exact Nat.le_refl _)⟩
            case measure => simp [intOf]; omega
        · have HL : Hid (∀ s, P2 rs k s ↔ LeftP rs s) := fun s => by unfold P2 LeftP; rw [List.take_of_length_le (by omega)]
          go_wp2
          go_ret
          exact ⟨rfl, ⟨n, D, hown, HHO.out.same HL.out⟩, hbe⟩
end Go.Proofs.YtafdbnadakclnaaGreat
namespace Go.Proofs.YtafdbnadakclnaaGreat
open Go.RowKit M

set_option maxHeartbeats 400000 in
theorem allOf_any (s : ByteArray) (ks : List Int) (n b o cap : Nat) (w : World) (hn : ks.length = n) (hs : s.size ≤ maxLen) (hl : ks.length ≤ maxLen)
    (hc : ∀ i, i < ks.length → w.cell? ⟨b, o + i, none⟩ = some (.int .i64 (ks.getD i 0))) :
    Calls Tryz.prog 136 #[.string s, .slice (some ⟨b, o, none⟩) n cap] w fun e w' => e = .returned (.bool (allB s.data.toList ks)) ∧ w' = w := by
  subst hn
  unfold maxLen at hs
  have HC : Hid (∀ i, i < ks.length → w.cell? ⟨b, o + i, none⟩ = some (.int .i64 (ks.getD i 0))) := hc
  clear hc
  go_enter Tryz.func136, Tryz.ntmps136
  go_wp2
  go_loop [5] (fun i => ∃ k : Nat, k ≤ s.size ∧ i = .int .i64 k ∧ allB (s.data.toList.take k) ks = true) (fun i => s.size - (intOf i).toNat)
  case atStart => exact ⟨0, Nat.zero_le _, rfl, rfl⟩
  case round =>
    obtain ⟨k, hk, rfl, hn⟩ := hrel
    have HN : Hid (allB (s.data.toList.take k) ks = true) := hn; clear hn
    by_cases hlt : k < s.size
    · go_wp2_with (go_at_call 137; refine (isOneOf_any _ ks _ b o cap _ rfl hl HC.out).mono ?_; rintro e w' ⟨rfl, rfl⟩)
      · go_ret
        exact ⟨ret_bool (by rw [allB_not s ks k hlt (by assumption)]), rfl⟩
      · go_round
        case rel => exact ⟨k + 1, by omega, by go_num, allB_snoc s ks k hlt HN.out (by assumption)⟩
        case measure => simp [intOf]; omega
    · go_wp2
      go_ret
      exact ⟨ret_bool (by rw [← HN.out, take_all s k hlt]), rfl⟩
end Go.Proofs.YtafdbnadakclnaaGreat
namespace Go.Proofs.YtafdbnadakclnaaGreat
open Go.RowKit M

set_option maxHeartbeats 400000 in
theorem plain_any (s : ByteArray) (w : World) (hs : s.size ≤ maxLen) :
    Calls Tryz.prog 121 #[.string s] w fun e w' => e = .returned (.bool (allB s.data.toList [0])) ∧ Below w.heap.size w w' := by
  go_enter Tryz.func121, Tryz.ntmps121
  go_wp2_with (go_at_call 136; refine (allOf_any s [0] 1 _ 0 1 _ rfl hs (by decide) ?_).mono ?_)
  · intro i hi
    have : i = 0 := by simp at hi; omega
    subst this
    simp
  · rintro e w' ⟨rfl, rfl⟩
    go_wp2
    go_ret
    exact ⟨rfl, (Below.refl _ _).alloc (Nat.le_refl _) _⟩
end Go.Proofs.YtafdbnadakclnaaGreat
namespace Go.Proofs.YtafdbnadakclnaaGreat
open Go.RowKit M

set_option maxHeartbeats 400000 in
theorem smallName_any (s : ByteArray) (w : World) (hs : s.size ≤ maxLen) :
    Calls Tryz.prog 122 #[.string s] w fun e w' => e = .returned (.bool (smB s.data.toList)) ∧ Below w.heap.size w w' := by
  have hs' := hs
  unfold maxLen at hs'
  by_cases h0 : s.size < 1
  · have := smB_long s (.inl h0)
    have H : Hid (smB s.data.toList = false) := this
    clear this
    go_enter Tryz.func122, Tryz.ntmps122
    go_wp2
    go_ret
    exact ⟨ret_bool H.out.symm, Below.refl _ _⟩
  · by_cases h20 : 20 < s.size
    · have H : Hid (smB s.data.toList = false) := smB_long s (.inr h20)
      go_enter Tryz.func122, Tryz.ntmps122
      go_wp2
      go_ret
      exact ⟨ret_bool H.out.symm, Below.refl _ _⟩
    · have h1 : 0 < s.size := by omega
      have H : Hid (smB s.data.toList = (isB ((s[0]).toNat : Int) 2 && allB s.data.toList [2, 4, 7])) := smB_impl s h1 (by omega)
      cases hsm : isB ((s[0]).toNat : Int) 2
      · go_enter Tryz.func122, Tryz.ntmps122
        go_wp2_with (go_at_call 137; refine (isOneOf_any _ [2] 1 _ 0 1 _ rfl (by decide) (cells1 w 2 132)).mono ?_; rintro e w' ⟨rfl, rfl⟩; rw [anyB_one, hsm])
        go_ret
        exact ⟨ret_bool (by rw [H.out, hsm]; rfl), (Below.refl _ _).alloc (Nat.le_refl _) _⟩
      · go_enter Tryz.func122, Tryz.ntmps122
        go_wp2_with (first | (go_at_call 137; refine (isOneOf_any _ [2] 1 _ 0 1 _ rfl (by decide) (cells1 w 2 132)).mono ?_; rintro e w' ⟨rfl, rfl⟩; rw [anyB_one, hsm]) | (go_at_call 136; refine (allOf_any s [2, 4, 7] 3 _ 0 3 _ rfl hs (by decide) ?c1).mono ?_; rotate_left; rintro e w' ⟨rfl, rfl⟩))
        case c1 => exact cells3 _ _ 2 4 7 132 (by simp)
        go_ret
        exact ⟨ret_bool (by rw [H.out, hsm]; rfl), ((Below.refl _ _).alloc (Nat.le_refl _) _).alloc (by simp) _⟩
end Go.Proofs.YtafdbnadakclnaaGreat
namespace Go.Proofs.YtafdbnadakclnaaGreat
open Go.RowKit M
set_option linter.unusedVariables false

set_option maxHeartbeats 2000000 in
theorem propOk_any (p : Pp) (w : World) (h1 : p.1.size ≤ maxLen) (h2 : p.2.1.size ≤ maxLen) (h3 : p.2.2.size ≤ maxLen) :
    Calls Tryz.prog 93 #[.agg #[.string p.1, .string p.2.1, .string p.2.2]] w fun e w' => e = .returned (.bool (propB p)) ∧ Below w.heap.size w w' := by
  obtain ⟨x, y, z⟩ := p
  simp only at *
  have HB0 := hide (show Below w.heap.size w (w.alloc (Obj.cells #[.string x, .string y, .string z] 87)) from (Below.refl _ _).alloc (Nat.le_refl _) _)
  have HX := hide (fun W => plain_any x W h1)
  have HY := hide (fun W => smallName_any y W h2)
  have HZ := hide (fun W => plain_any z W h3)
  have HF := hide (show propB (x, y, z) = (decide (x.size ≤ 20) && (allB x.data.toList [0] && (smB y.data.toList && (decide (z.size ≤ 20) && allB z.data.toList [0])))) from rfl)
  generalize propB (x, y, z) = R at *
  generalize allB x.data.toList [0] = bx at *
  generalize smB y.data.toList = by' at *
  generalize allB z.data.toList [0] = bz at *
  cases bx
  · have hr : R = false := by rw [HF.out]; simp
    subst hr
    go_enter Tryz.func93, Tryz.ntmps93
    go_wp2_with fail
    refine (HX.out _).mono ?_
    rintro e w1 ⟨rfl, b1⟩
    have c1 := HB0.out.trans (b1.mono (by simp))
    clear b1
    go_wp2
    go_ret
    exact ⟨rfl, c1⟩
  by_cases hx : x.size ≤ 20
  · cases by'
    · have hr : R = false := by rw [HF.out]; simp
      subst hr
      go_enter Tryz.func93, Tryz.ntmps93
      go_wp2_with fail
      refine (HX.out _).mono ?_
      rintro e w1 ⟨rfl, b1⟩
      have c1 := HB0.out.trans (b1.mono (by simp))
      obtain ⟨hc, _⟩ := bcellP b1
      go_wp2_with fail
      refine (HY.out _).mono ?_
      rintro e w2 ⟨rfl, b2⟩
      have c2 := c1.trans (b2.mono c1.size)
      clear b1 b2 hc
      go_wp2
      go_ret
      exact ⟨rfl, c2⟩
    · cases bz
      · have hr : R = false := by rw [HF.out]; simp
        subst hr
        go_enter Tryz.func93, Tryz.ntmps93
        go_wp2_with fail
        refine (HX.out _).mono ?_
        rintro e w1 ⟨rfl, b1⟩
        have c1 := HB0.out.trans (b1.mono (by simp))
        obtain ⟨hc, _⟩ := bcellP b1
        go_wp2_with fail
        refine (HY.out _).mono ?_
        rintro e w2 ⟨rfl, b2⟩
        have c2 := c1.trans (b2.mono c1.size)
        obtain ⟨hc, _⟩ := bcellP (b1.trans (b2.mono b1.size))
        clear b1 b2
        go_wp2_with fail
        refine (HZ.out _).mono ?_
        rintro e w3 ⟨rfl, b3⟩
        have c3 := c2.trans (b3.mono c2.size)
        clear b3
        go_wp2
        go_ret
        exact ⟨rfl, c3⟩
      · have hr : R = decide (z.size ≤ 20) := by rw [HF.out]; simp [hx]
        subst hr
        go_enter Tryz.func93, Tryz.ntmps93
        go_wp2_with fail
        refine (HX.out _).mono ?_
        rintro e w1 ⟨rfl, b1⟩
        have c1 := HB0.out.trans (b1.mono (by simp))
        obtain ⟨hc, _⟩ := bcellP b1
        go_wp2_with fail
        refine (HY.out _).mono ?_
        rintro e w2 ⟨rfl, b2⟩
        have c2 := c1.trans (b2.mono c1.size)
        have b12 := b1.trans (b2.mono b1.size)
        obtain ⟨hc, _⟩ := bcellP b12
        clear b1 b2
        go_wp2_with fail
        refine (HZ.out _).mono ?_
        rintro e w3 ⟨rfl, b3⟩
        have c3 := c2.trans (b3.mono c2.size)
        obtain ⟨hc, _⟩ := bcellP (b12.trans (b3.mono b12.size))
        clear b3 b12
        go_wp2
        go_ret
        exact ⟨ret_bool (by simp; omega), c3⟩
  · have hr : R = false := by rw [HF.out]; simp [hx]
    subst hr
    go_enter Tryz.func93, Tryz.ntmps93
    go_wp2_with fail
    refine (HX.out _).mono ?_
    rintro e w1 ⟨rfl, b1⟩
    have c1 := HB0.out.trans (b1.mono (by simp))
    obtain ⟨hc, _⟩ := bcellP b1
    clear b1
    go_wp2
    go_ret
    exact ⟨rfl, c1⟩

set_option maxHeartbeats 400000 in
theorem cmpOr_any (g : Nat) (x y : Int) (w : World) (h0 : w.cell? ⟨g, 0, none⟩ = some (.int .i64 x)) (h1 : w.cell? ⟨g, 1, none⟩ = some (.int .i64 y)) :
    Calls Tryz.prog 123 #[.slice (some ⟨g, 0, none⟩) 2 2] w fun e w' => e = .returned (.int .i64 (orI x y)) ∧ w' = w := by
  go_enter Tryz.func123, Tryz.ntmps123
  go_wp2
  go_loop [8] (fun i => ∃ k : Nat, k ≤ 2 ∧ i = .int .i64 k ∧ (0 < k → x = 0) ∧ (1 < k → y = 0)) (fun i => 2 - (intOf i).toNat)
  case atStart => exact ⟨0, Nat.zero_le _, rfl, fun h => absurd h (by omega), fun h => absurd h (by omega)⟩
  case round =>
    obtain ⟨k, hk, rfl, hx, hy⟩ := hrel
    match k, hk with
    | 0, _ =>
      by_cases e : x = 0
      · go_wp2
        go_round
        case rel => exact ⟨1, by omega, by go_num, fun _ => e, fun h => absurd h (by omega)⟩
        case measure => simp [intOf]
      · have HO := hide (orI_yes (y := y) e)
        go_wp2
        go_ret
        exact ⟨by rw [HO.out]; rfl, rfl⟩
    | 1, _ =>
      have e0 := hx (by omega)
      have HO := hide (orI_no (y := y) e0)
      have E0 := hide e0
      clear hx hy e0
      by_cases e : y = 0
      · go_wp2
        go_round
        case rel => exact ⟨2, by omega, by go_num, fun _ => E0.out, fun _ => e⟩
        case measure => simp [intOf]
      · go_wp2
        go_ret
        exact ⟨by rw [HO.out]; rfl, rfl⟩
    | 2, _ =>
      have e0 := hx (by omega)
      have e1 := hy (by omega)
      have HO := hide ((orI_no (y := y) e0).trans e1)
      clear hx hy e0 e1
      go_wp2
      go_ret
      exact ⟨by rw [HO.out]; rfl, rfl⟩
end Go.Proofs.YtafdbnadakclnaaGreat
namespace Go.Proofs.YtafdbnadakclnaaGreat
open Go.RowKit M
set_option linter.unusedVariables false

theorem keepL {W : World} {a b c d : Addr} {x y u v : Value} (h : W.cell? a = some x ∧ W.cell? b = some y ∧ W.cell? c = some u ∧ W.cell? d = some v) (o : Obj) : (W.alloc o).cell? a = some x ∧ (W.alloc o).cell? b = some y ∧ (W.alloc o).cell? c = some u ∧ (W.alloc o).cell? d = some v := by
  rw [World.cell?_alloc_some W a o (by rw [h.1]; rfl), World.cell?_alloc_some W b o (by rw [h.2.1]; rfl), World.cell?_alloc_some W c o (by rw [h.2.2.1]; rfl), World.cell?_alloc_some W d o (by rw [h.2.2.2]; rfl)]
  exact h

theorem cell_new (W : World) (n : Nat) (cs : Array Value) (T : TypeId) (hn : n = W.heap.size) (i : Nat) (v : Value) (hi : cs[i]? = some v) : (W.alloc (.cells cs T)).drew.cell? ⟨n, i, none⟩ = some v := by
  subst hn
  show (W.alloc (.cells cs T)).cell? _ = _
  simp [hi]

set_option maxRecDepth 100000 in
set_option maxHeartbeats 4000000 in
theorem lessProp_any (p q : Pp) (w : World) :
    Calls Tryz.prog 95 #[.agg #[.string p.1, .string p.2.1, .string p.2.2], .agg #[.string q.1, .string q.2.1, .string q.2.2]] w fun e w' => e = .returned (.bool (lessP p q)) ∧ Below w.heap.size w w' := by
  have HF := hide (lessP_cmp p q)
  obtain ⟨x, y, z⟩ := p
  obtain ⟨x', y', z'⟩ := q
  simp only at *
  have HC := hide (fun W => compare_any x x' W)
  have HD := hide (fun W => compare_any y y' W)
  generalize lessP (x, y, z) (x', y', z') = R at *
  generalize cmpT x x' = c at *
  generalize cmpT y y' = d at *
  go_enter Tryz.func95, Tryz.ntmps95
  go_wp2
  refine wp_region_held_drew (S := (fun W => W.cell? ⟨w.heap.size, 0, none⟩ = some (.string x) ∧ W.cell? ⟨w.heap.size, 1, none⟩ = some (.string y) ∧ W.cell? ⟨w.heap.size + 1, 0, none⟩ = some (.string x') ∧ W.cell? ⟨w.heap.size + 1, 1, none⟩ = some (.string y'))) (by kernel_rfl) (by simp) (fun hHeld => ?_)
  simp only [List.size_toArray, List.length_cons, List.length_nil, Nat.reduceAdd, Array.replicate_succ, Array.replicate_zero, List.push_toArray, List.nil_append, List.cons_append]
  refine wpAnyH_take (i := 0) (v := ?_) rfl (by kernel_rfl) (by kernel_rfl) (by kernel_rfl) (fun _ _ _ h => h) (Or.inl ⟨by rfl, ?_⟩) (by assumption) ?_
  rotate_left
  · intro w hSw; (try dsimp only at hSw); go_simp; try with_reducible rfl
  simp only [Act.put, List.getElem_toArray, List.getElem_cons_zero, List.setIfInBounds_toArray, List.set_cons_zero]
  refine wpAnyH_take (i := 1) (v := ?_) rfl (by kernel_rfl) (by kernel_rfl) (by kernel_rfl) (fun _ _ _ h => h) (Or.inl ⟨by rfl, ?_⟩) (by assumption) ?_
  rotate_left
  · intro w hSw; (try dsimp only at hSw); go_simp; try with_reducible rfl
  simp only [Act.put, List.getElem_toArray, List.getElem_cons_succ, List.getElem_cons_zero, List.setIfInBounds_toArray, List.set_cons_succ, List.set_cons_zero]
  refine wpAnyH_take (i := 2) (v := ?_) rfl (by kernel_rfl) (by kernel_rfl) (by kernel_rfl) (fun _ _ _ h => h) (Or.inl ⟨by rfl, ?_⟩) (by assumption) ?_
  rotate_left
  · intro w hSw; (try dsimp only at hSw); go_simp; try with_reducible rfl
  simp only [Act.put, List.getElem_toArray, List.getElem_cons_succ, List.getElem_cons_zero, List.setIfInBounds_toArray, List.set_cons_succ, List.set_cons_zero]
  refine wpAnyH_take (i := 3) (v := ?_) rfl (by kernel_rfl) (by kernel_rfl) (by kernel_rfl) (fun _ _ _ h => h) (Or.inl ⟨by rfl, ?_⟩) (by assumption) ?_
  rotate_left
  · intro w hSw; (try dsimp only at hSw); go_simp; try with_reducible rfl
  simp only [Act.put, List.getElem_toArray, List.getElem_cons_succ, List.getElem_cons_zero, List.setIfInBounds_toArray, List.set_cons_succ, List.set_cons_zero]
  refine wpAnyH_take (i := 5) (v := ?_) rfl (by kernel_rfl) (by kernel_rfl) (by kernel_rfl) (fun _ _ _ h => h) (Or.inl ⟨by rfl, ?_⟩) (by assumption) ?_
  rotate_left
  · intro w hSw; (try dsimp only at hSw); go_simp; try with_reducible rfl
  simp only [Act.put, List.getElem_toArray, List.getElem_cons_succ, List.getElem_cons_zero, List.setIfInBounds_toArray, List.set_cons_succ, List.set_cons_zero]
  refine wpAnyH_take (i := 6) (v := ?_) rfl (by kernel_rfl) (by kernel_rfl) (by kernel_rfl) (fun _ _ _ h => h) (Or.inl ⟨by rfl, ?_⟩) (by assumption) ?_
  rotate_left
  · intro w hSw; (try dsimp only at hSw); go_simp; try with_reducible rfl
  simp only [Act.put, List.getElem_toArray, List.getElem_cons_succ, List.getElem_cons_zero, List.setIfInBounds_toArray, List.set_cons_succ, List.set_cons_zero]
  refine wpAnyH_take (i := 7) (v := ?_) rfl (by kernel_rfl) (by kernel_rfl) (by kernel_rfl) (fun _ _ _ h => h) (Or.inl ⟨by rfl, ?_⟩) (by assumption) ?_
  rotate_left
  · intro w hSw; (try dsimp only at hSw); go_simp; try with_reducible rfl
  simp only [Act.put, List.getElem_toArray, List.getElem_cons_succ, List.getElem_cons_zero, List.setIfInBounds_toArray, List.set_cons_succ, List.set_cons_zero]
  refine wpAnyH_take (i := 8) (v := ?_) rfl (by kernel_rfl) (by kernel_rfl) (by kernel_rfl) (fun _ _ _ h => h) (Or.inl ⟨by rfl, ?_⟩) (by assumption) ?_
  rotate_left
  · intro w hSw; (try dsimp only at hSw); go_simp; try with_reducible rfl
  simp only [Act.put, List.getElem_toArray, List.getElem_cons_succ, List.getElem_cons_zero, List.setIfInBounds_toArray, List.set_cons_succ, List.set_cons_zero]
  refine wpAnyH_ready (rs := [4]) (by kernel_rfl) (by simp) ?_
  refine AllReadyH.cons rfl (fun K hK => ?_) AllReadyH.nil
  go_simp
  refine (HC.out _).mono ?_
  rintro e w1 ⟨rfl, hw⟩
  obtain rfl := hw
  refine hK.out _ _ hHeld (fun hHeld2 => ?_)
  clear hK K hHeld
  have hHeld := hHeld2
  clear hHeld2
  simp only [List.setIfInBounds_toArray, List.set_cons_succ, List.set_cons_zero]
  refine wpAnyH_ready (rs := [9]) (by kernel_rfl) (by simp) ?_
  refine AllReadyH.cons rfl (fun K hK => ?_) AllReadyH.nil
  go_simp
  refine (HD.out _).mono ?_
  rintro e w2 ⟨rfl, hw⟩
  obtain rfl := hw
  refine hK.out _ _ hHeld (fun hHeld2 => ?_)
  clear hK K hHeld
  have hHeld := hHeld2
  clear hHeld2
  simp only [List.setIfInBounds_toArray, List.set_cons_succ, List.set_cons_zero]
  refine wpAnyH_ready (rs := [10]) (by kernel_rfl) (by simp) ?_
  refine AllReadyH.cons rfl (fun K hK => ?_) AllReadyH.nil
  go_simp
  refine hK.out _ _ (keepL hHeld _) (fun hHeld2 => ?_)
  clear hK K hHeld
  have hHeld := hHeld2
  clear hHeld2
  simp only [List.setIfInBounds_toArray, List.set_cons_succ, List.set_cons_zero]
  refine wpAnyH_ready (rs := [11]) (by kernel_rfl) (by simp) ?_
  refine AllReadyH.cons rfl (fun K hK => ?_) AllReadyH.nil
  go_simp
  refine (cmpOr_any _ c d _ (cell_new ((w.alloc _).alloc _) _ _ _ (by simp) 0 _ rfl) (cell_new ((w.alloc _).alloc _) _ _ _ (by simp) 1 _ rfl)).mono ?_
  rintro e w3 ⟨rfl, hw⟩
  obtain rfl := hw
  refine hK.out _ _ hHeld (fun hHeld2 => ?_)
  clear hK K hHeld
  have hHeld := hHeld2
  clear hHeld2
  simp only [List.setIfInBounds_toArray, List.set_cons_succ, List.set_cons_zero]
  refine wpAnyH_take (i := 12) (v := ?_) rfl (by kernel_rfl) (by kernel_rfl) (by kernel_rfl) (fun _ _ _ h => h) (Or.inl ⟨by rfl, ?_⟩) (by assumption) ?_
  rotate_left
  · intro w hSw; (try dsimp only at hSw); go_simp; try with_reducible rfl
  simp only [Act.put, List.getElem_toArray, List.getElem_cons_succ, List.getElem_cons_zero, List.setIfInBounds_toArray, List.set_cons_succ, List.set_cons_zero]
  refine wpAnyH_take (i := 13) (v := ?_) rfl (by kernel_rfl) (by kernel_rfl) (by kernel_rfl) (fun _ _ _ h => h) (Or.inl ⟨by rfl, ?_⟩) (by assumption) ?_
  rotate_left
  · intro w hSw; (try dsimp only at hSw); go_simp; try with_reducible rfl
  simp only [Act.put, List.getElem_toArray, List.getElem_cons_succ, List.getElem_cons_zero, List.setIfInBounds_toArray, List.set_cons_succ, List.set_cons_zero]
  refine wpAnyH_done (by kernel_rfl) ?_ _
  clear hHeld
  have HF2 := hide HF.out
  go_wp2
  go_ret
  refine ⟨ret_bool ?_, ?_⟩
  · exact HF2.out
  · exact below_drewP ((((Below.refl _ _).alloc (Nat.le_refl _) _).alloc (by simp) _).alloc (by simp; omega) _)
end Go.Proofs.YtafdbnadakclnaaGreat
namespace Go.Proofs.YtafdbnadakclnaaGreat
open Go.RowKit M
set_option linter.unusedVariables false

set_option maxRecDepth 100000 in
set_option maxHeartbeats 4000000 in
theorem ascProps_any (a : Option Addr) (ps : List Pp) (cap B : Nat) (w : World) (h : Pps w B a ps) (hB : B ≤ w.heap.size) (hl : ps.length ≤ maxLen) :
    Calls Tryz.prog 94 #[.slice a ps.length cap, .func (.func 95) #[] #[]] w fun e w' => e = .returned (.bool (ascB lessP ps)) ∧ Below w.heap.size w w' := by
  unfold maxLen at hl
  go_enter Tryz.func94, Tryz.ntmps94
  go_wp2
  go_loopw [5] (fun i wr => ∃ m : Nat, m ≤ ps.length ∧ i = .int .i64 ((m : Int) + 1) ∧ (∀ j (hj : j + 1 < ps.length), j < m → lessP ps[j] ps[j + 1] = true) ∧ Below w.heap.size w wr) (fun i _ => ps.length - (intOf i).toNat)
  case atStart => exact ⟨0, Nat.zero_le _, by simp, fun j _ hj => absurd hj (Nat.not_lt_zero _), Below.refl _ _⟩
  case round =>
    obtain ⟨m, hm, rfl, ht, hbe⟩ := hrel
    have HT := hide ht
    clear ht
    by_cases hlt : m + 1 < ps.length
    · obtain ⟨b, o, rfl, hb, hc⟩ := (h.below hbe hB) (by omega)
      obtain ⟨hx0, hx1, hx2⟩ := hc m (by omega)
      obtain ⟨hy0, hy1, hy2⟩ := hc (m + 1) hlt
      clear hc
      have hl1 : b < wr.drew.heap.size := by have := hbe.size; show b < wr.heap.size; omega
      have hbd : Below w.heap.size w wr.drew := below_drewP hbe
      have hq := lessProp_any ps[m] ps[m + 1] wr.drew
      have hi1 : IntKind.i64.wrap ((m : Int) + 1 - 1) = (m : Int) := by rw [IntKind.wrap_i64] <;> omega
      have hi2 : ((m : Int) + 1).toNat = m + 1 := by omega
      have hi3 : (m : Int) < (ps.length : Int) := by omega
      have hi4 : (m : Int) + 1 < (ps.length : Int) := by omega
      have hi5 : ¬ ((m : Int) + 1 < 0) := by omega
      have hi6 : IntKind.i64.wrap (m : Int) = (m : Int) := by rw [IntKind.wrap_i64] <;> omega
      have hi7 : (0 : Int) ≤ (m : Int) := by omega
      have hi8 : (0 : Int) ≤ (m : Int) + 1 := by omega
      obtain ⟨z, hz⟩ : ∃ z, lessP ps[m] ps[m + 1] = z := ⟨_, rfl⟩
      rw [hz] at hq
      have HZ := hide hz
      clear hz
      cases z
      · go_wp2
        go_region_held3 (fun W => W.cell? ⟨b, o + m * 3, none⟩ = some (.string ps[m].1) ∧ W.cell? ⟨b, o + m * 3 + 1, none⟩ = some (.string ps[m].2.1) ∧ W.cell? ⟨b, o + m * 3 + 2, none⟩ = some (.string ps[m].2.2) ∧ W.cell? ⟨b, o + (m + 1) * 3, none⟩ = some (.string ps[m + 1].1) ∧ W.cell? ⟨b, o + (m + 1) * 3 + 1, none⟩ = some (.string ps[m + 1].2.1) ∧ W.cell? ⟨b, o + (m + 1) * 3 + 2, none⟩ = some (.string ps[m + 1].2.2)) (first | exact ⟨hx0, hx1, hx2, hy0, hy1, hy2⟩ | (simp only [(bcellP hb3).1 b _ hl1]; exact ⟨hx0, hx1, hx2, hy0, hy1, hy2⟩)) ((go_at_call 95; refine hq.mono ?_; rintro e w1 ⟨rfl, hb3⟩))
        all_goals
          have c1 := hbd.trans (hb3.mono hbd.size)
          clear hq hb3
          go_wp2
          go_ret
          exact ⟨ret_bool (ascB_not lessP ps m hlt HZ.out).symm, c1⟩
      · go_wp2
        go_region_held3 (fun W => W.cell? ⟨b, o + m * 3, none⟩ = some (.string ps[m].1) ∧ W.cell? ⟨b, o + m * 3 + 1, none⟩ = some (.string ps[m].2.1) ∧ W.cell? ⟨b, o + m * 3 + 2, none⟩ = some (.string ps[m].2.2) ∧ W.cell? ⟨b, o + (m + 1) * 3, none⟩ = some (.string ps[m + 1].1) ∧ W.cell? ⟨b, o + (m + 1) * 3 + 1, none⟩ = some (.string ps[m + 1].2.1) ∧ W.cell? ⟨b, o + (m + 1) * 3 + 2, none⟩ = some (.string ps[m + 1].2.2)) (first | exact ⟨hx0, hx1, hx2, hy0, hy1, hy2⟩ | (simp only [(bcellP hb3).1 b _ hl1]; exact ⟨hx0, hx1, hx2, hy0, hy1, hy2⟩)) ((go_at_call 95; refine hq.mono ?_; rintro e w1 ⟨rfl, hb3⟩))
        all_goals
          have c1 := hbd.trans (hb3.mono hbd.size)
          clear hq hb3
          go_wp2
          go_roundw
          case rel => exact ⟨m + 1, by omega, by go_num, fun j hj hjm => by
                        by_cases e : j = m
                        · subst e; exact HZ.out
                        · exact HT.out j hj (by omega), c1⟩
          case measure => simp [intOf]; omega
    · have HE := hide (ascB_all lessP ps (fun j hj => HT.out j hj (by omega)))
      go_wp2
      go_ret
      exact ⟨ret_bool HE.out.symm, hbe⟩

set_option maxHeartbeats 2000000 in
theorem propsOk_any (a : Option Addr) (ps : List Pp) (cap B : Nat) (w : World) (h : Pps w B a ps) (hB : B ≤ w.heap.size) (hs : ShortPs ps) (hl : ps.length ≤ maxLen) :
    Calls Tryz.prog 47 #[.slice a ps.length cap] w fun e w' => e = .returned (.bool (propsB ps)) ∧ Below w.heap.size w w' := by
  have hl' := hl
  unfold maxLen at hl'
  by_cases h4 : ps.length ≤ 4
  · go_enter Tryz.func47, Tryz.ntmps47
    go_wp2
    go_loopw [10] (fun i wr => ∃ k : Nat, k ≤ ps.length ∧ i = .int .i64 k ∧ (∀ j (hj : j < ps.length), j < k → propB ps[j] = true) ∧ Below w.heap.size w wr) (fun i _ => ps.length - (intOf i).toNat)
    case atStart => exact ⟨0, Nat.zero_le _, rfl, fun j _ hj => absurd hj (Nat.not_lt_zero _), Below.refl _ _⟩
    case round =>
      obtain ⟨k, hk, rfl, ht, hbe⟩ := hrel
      have HT := hide ht
      clear ht
      by_cases hlt : k < ps.length
      · obtain ⟨b, o, rfl, hb, hc⟩ := (h.below hbe hB) (by omega)
        obtain ⟨hx0, hx1, hx2⟩ := hc k hlt
        have hsz := hs.at k hlt
        clear hc
        have HBA := hide ((Below.refl wr.heap.size wr).alloc (Nat.le_refl _) (Obj.cells #[.string (ps[k]).1, .string (ps[k]).2.1, .string (ps[k]).2.2] 87))
        have HQ := hide (propOk_any ps[k] (wr.alloc (Obj.cells #[.string (ps[k]).1, .string (ps[k]).2.1, .string (ps[k]).2.2] 87)) hsz.1 hsz.2.1 hsz.2.2)
        obtain ⟨z, hz⟩ : ∃ z, propB ps[k] = z := ⟨_, rfl⟩
        rw [hz] at HQ
        have HZ := hide hz
        clear hz hsz
        cases z
        · go_wp2_with fail
          refine HQ.out.mono ?_
          rintro e w1 ⟨rfl, hb3⟩
          have c1 := hbe.trans ((HBA.out.trans (hb3.mono HBA.out.size)).mono hbe.size)
          go_wp2
          go_ret
          exact ⟨ret_bool (propsB_bad k hlt HZ.out).symm, c1⟩
        · go_wp2_with fail
          refine HQ.out.mono ?_
          rintro e w1 ⟨rfl, hb3⟩
          have c1 := hbe.trans ((HBA.out.trans (hb3.mono HBA.out.size)).mono hbe.size)
          go_wp2
          go_roundw
          case rel => exact ⟨k + 1, by omega, by go_num, fun j hj hjk => by
                        by_cases e : j = k
                        · subst e; exact HZ.out
                        · exact HT.out j hj (by omega), c1⟩
          case measure => simp [intOf]; omega
      · have HE := hide (propsB_of (ps := ps) (fun j hj => HT.out j hj (by omega)))
        have HA := hide (ascProps_any a ps cap B wr (h.below hbe hB) (Nat.le_trans hB hbe.size) hl)
        go_wp2_with fail
        refine HA.out.mono ?_
        rintro e w1 ⟨rfl, hb1⟩
        have c1 := hbe.trans (hb1.mono hbe.size)
        go_wp2
        go_ret
        exact ⟨ret_bool (by rw [HE.out]; simp [h4]), c1⟩
  · have HE := hide (propsB_long h4)
    go_enter Tryz.func47, Tryz.ntmps47
    go_wp2
    go_ret
    exact ⟨ret_bool HE.out.symm, Below.refl _ _⟩
end Go.Proofs.YtafdbnadakclnaaGreat
namespace Go.Proofs.YtafdbnadakclnaaGreat
open Go.RowKit M
set_option linter.unusedVariables false

set_option maxHeartbeats 400000 in
theorem verOk_any (v : Int) (w : World) : Calls Tryz.prog 102 #[.int .i64 v] w fun e w' => e = .returned (.bool (inB v 0 99999)) ∧ w' = w := by
  by_cases h : 0 ≤ v
  · have HF := hide (show inB v 0 99999 = decide (v ≤ 99999) by unfold inB; simp [h])
    go_enter Tryz.func102, Tryz.ntmps102
    go_wp2
    go_ret
    exact ⟨ret_bool HF.out.symm, rfl⟩
  · have HF := hide (show inB v 0 99999 = false by unfold inB; simp [h])
    go_enter Tryz.func102, Tryz.ntmps102
    go_wp2
    go_ret
    exact ⟨ret_bool HF.out.symm, rfl⟩

theorem emptyT10 {x : ByteArray} (h : x.size = 0) : x.toList.isEmpty = true := by
  have : x.data.toList = [] := List.length_eq_zero_iff.1 h
  rw [ByteArray.toList_eq, this]; rfl
theorem emptyF10 {x : ByteArray} (h : ¬ x.size = 0) : x.toList.isEmpty = false := by
  have hl : x.data.toList.length = x.size := Array.length_toList
  rw [ByteArray.toList_eq]
  cases e : x.data.toList with
  | nil => rw [e] at hl; exact absurd hl.symm h
  | cons a b => rfl

set_option maxHeartbeats 4000000 in
theorem resOk_any (r : Rs) (pa : Option Addr) (pc : Nat) (qa : Option Addr) (qc B : Nat) (w : World) (h : RsIn w B r pa pc qa qc) (hB : B ≤ w.heap.size) (hs : ShortRs r) :
    Calls Tryz.prog 63 #[.agg #[.slice pa r.pa.length pc, .bool r.co, .string r.bo, .int .i64 r.ve, .slice qa r.ps.length qc]] w fun e w' => e = .returned (.bool (resB r)) ∧ Below w.heap.size w w' := by
  have h1 := h.ph
  have h2 := h.qh
  have s1 := hs.ps
  have s2 := hs.qs
  have l1 := hs.pl
  have l2 := hs.ql
  have lb := hs.bo
  clear h hs
  have HF := hide (show resB r = (decide (0 < r.pa.length) && (pathB r.pa && (decide (r.bo.size ≤ 200) && ((!r.co || decide (r.bo.size = 0)) && (inB r.ve 0 99999 && propsB r.ps))))) from rfl)
  generalize resB r = R at *
  obtain ⟨ss, co, bo, ve, ps⟩ := r
  simp only at *
  unfold maxLen at lb
  have hb0 : Below w.heap.size w (w.alloc (Obj.cells #[.slice pa ss.length pc, .bool co, .string bo, .int .i64 ve, .slice qa ps.length qc] 35)) := (Below.refl _ _).alloc (Nat.le_refl _) _
  have HB0 := hide hb0
  have k1 := (h1.below hb0 hB).mono (Nat.le_trans hB hb0.size)
  have HP := hide (pathOk_any pa ss pc _ k1 s1 l1)
  have H2 := hide h2
  have hl' := l1
  unfold maxLen at hl'
  clear hb0 k1 h1 h2
  by_cases a1 : 0 < ss.length
  rotate_left
  · have hr : R = false := by rw [HF.out]; simp [a1]
    subst hr
    go_enter Tryz.func63, Tryz.ntmps63
    go_wp2
    go_ret
    exact ⟨rfl, HB0.out⟩
  cases hp : pathB ss
  · have hr : R = false := by rw [HF.out, hp]; simp
    subst hr
    rw [hp] at HP
    go_enter Tryz.func63, Tryz.ntmps63
    go_wp2_with fail
    refine HP.out.mono ?_
    rintro e w1 ⟨rfl, b1⟩
    have c1 := HB0.out.trans (b1.mono (by simp))
    clear b1
    go_wp2
    go_ret
    exact ⟨rfl, c1⟩
  rw [hp] at HP
  by_cases a2 : bo.size ≤ 200
  rotate_left
  · have hr : R = false := by rw [HF.out]; simp [a2]
    subst hr
    go_enter Tryz.func63, Tryz.ntmps63
    go_wp2_with fail
    refine HP.out.mono ?_
    rintro e w1 ⟨rfl, b1⟩
    have c1 := HB0.out.trans (b1.mono (by simp))
    obtain ⟨hc, _⟩ := bcellP b1
    clear b1
    go_wp2
    go_ret
    exact ⟨rfl, c1⟩
  have HV := hide (fun W => verOk_any ve W)
  have HQ := hide (fun W (hb : Below w.heap.size w W) => propsOk_any qa ps qc B W (H2.out.below hb hB) (Nat.le_trans hB hb.size) s2 l2)
  have fin : ∀ (d : Bool), d = (!co || decide (bo.size = 0)) → Hid (R = (d && (inB ve 0 99999 && propsB ps))) := fun d hd => by
    show R = _
    rw [HF.out, hp, hd]
    simp [a1, a2]
  have FIN := hide fin
  clear fin HF
  generalize inB ve 0 99999 = bv at *
  generalize propsB ps = bq at *
  cases co
  · have hr := FIN.out true (by simp)
    clear FIN
    cases bv
    · have hr' : R = false := hr.out
      subst hr'
      go_enter Tryz.func63, Tryz.ntmps63
      go_wp2_with fail
      refine HP.out.mono ?_
      rintro e w1 ⟨rfl, b1⟩
      have c1 := HB0.out.trans (b1.mono (by simp))
      obtain ⟨hc, _⟩ := bcellP b1
      clear b1
      go_wp2_with fail
      refine (HV.out _).mono ?_
      rintro e w2 ⟨rfl, hw⟩
      obtain rfl := hw.symm
      go_wp2
      go_ret
      exact ⟨rfl, c1⟩
    · have hr' : R = bq := hr.out
      subst hr'
      go_enter Tryz.func63, Tryz.ntmps63
      go_wp2_with fail
      refine HP.out.mono ?_
      rintro e w1 ⟨rfl, b1⟩
      have c1 := HB0.out.trans (b1.mono (by simp))
      obtain ⟨hc, _⟩ := bcellP b1
      clear b1
      go_wp2_with fail
      refine (HV.out _).mono ?_
      rintro e w2 ⟨rfl, hw⟩
      obtain rfl := hw.symm
      have HQ1 := hide (HQ.out w1 c1)
      go_wp2_with fail
      refine HQ1.out.mono ?_
      rintro e w3 ⟨rfl, b3⟩
      have c3 := c1.trans (b3.mono c1.size)
      go_wp2
      go_ret
      exact ⟨rfl, c3⟩
  · by_cases a3 : bo.size = 0
    · have e3 := emptyT10 a3
      have hr := FIN.out true (by simp [a3])
      clear FIN
      have hz0 : bo.size ≤ 200 := a2
      clear a3
      cases bv
      · have hr' : R = false := hr.out
        subst hr'
        go_enter Tryz.func63, Tryz.ntmps63
        go_wp2_with fail
        refine HP.out.mono ?_
        rintro e w1 ⟨rfl, b1⟩
        have c1 := HB0.out.trans (b1.mono (by simp))
        obtain ⟨hc, _⟩ := bcellP b1
        clear b1
        go_wp2_with fail
        refine (HV.out _).mono ?_
        rintro e w2 ⟨rfl, hw⟩
        obtain rfl := hw.symm
        go_wp2
        go_ret
        exact ⟨rfl, c1⟩
      · have hr' : R = bq := hr.out
        subst hr'
        go_enter Tryz.func63, Tryz.ntmps63
        go_wp2_with fail
        refine HP.out.mono ?_
        rintro e w1 ⟨rfl, b1⟩
        have c1 := HB0.out.trans (b1.mono (by simp))
        obtain ⟨hc, _⟩ := bcellP b1
        clear b1
        go_wp2_with fail
        refine (HV.out _).mono ?_
        rintro e w2 ⟨rfl, hw⟩
        obtain rfl := hw.symm
        have HQ1 := hide (HQ.out w1 c1)
        go_wp2_with fail
        refine HQ1.out.mono ?_
        rintro e w3 ⟨rfl, b3⟩
        have c3 := c1.trans (b3.mono c1.size)
        go_wp2
        go_ret
        exact ⟨rfl, c3⟩
    · have e3 := emptyF10 a3
      have hr' : R = false := FIN.out false (by simp [a3])
      subst hr'
      clear FIN
      go_enter Tryz.func63, Tryz.ntmps63
      go_wp2_with fail
      refine HP.out.mono ?_
      rintro e w1 ⟨rfl, b1⟩
      have c1 := HB0.out.trans (b1.mono (by simp))
      obtain ⟨hc, _⟩ := bcellP b1
      clear b1
      go_wp2
      go_ret
      exact ⟨rfl, c1⟩

set_option maxHeartbeats 1000000 in
theorem lessRes_any (r s : Rs) (pa : Option Addr) (pc : Nat) (qa : Option Addr) (qc : Nat) (pa' : Option Addr) (pc' : Nat) (qa' : Option Addr) (qc' : Nat) (B C : Nat) (w : World) (h : RsIn w B r pa pc qa qc) (h' : RsIn w C s pa' pc' qa' qc') (hB : B ≤ w.heap.size) (hC : C ≤ w.heap.size) :
    Calls Tryz.prog 65 #[.agg #[.slice pa r.pa.length pc, .bool r.co, .string r.bo, .int .i64 r.ve, .slice qa r.ps.length qc], .agg #[.slice pa' s.pa.length pc', .bool s.co, .string s.bo, .int .i64 s.ve, .slice qa' s.ps.length qc']] w fun e w' => e = .returned (.bool (lessR r s)) ∧ Below w.heap.size w w' := by
  have l1 : r.pa.length ≤ maxLen := Nat.le_trans h.pl h.pm
  have l2 : s.pa.length ≤ maxLen := Nat.le_trans h'.pl h'.pm
  have p1 := h.ph
  have p2 := h'.ph
  have HF := hide (show lessR r s = lessL r.pa s.pa from rfl)
  generalize lessR r s = R at *
  clear h h'
  obtain ⟨ss, co, bo, ve, ps⟩ := r
  obtain ⟨ss', co', bo', ve', ps'⟩ := s
  simp only at *
  have hb0 : Below w.heap.size w ((w.alloc (Obj.cells #[.slice pa ss.length pc, .bool co, .string bo, .int .i64 ve, .slice qa ps.length qc] 35)).alloc (Obj.cells #[.slice pa' ss'.length pc', .bool co', .string bo', .int .i64 ve', .slice qa' ps'.length qc'] 35)) := ((Below.refl _ _).alloc (Nat.le_refl _) _).alloc (by simp) _
  have HE := hide (lessPath_any pa pa' ss ss' pc pc' B C _ (p1.below hb0 hB) (p2.below hb0 hC) l1 l2)
  have HB0 := hide hb0
  clear p1 p2 hb0
  go_enter Tryz.func65, Tryz.ntmps65
  go_wp2_with fail
  refine HE.out.mono ?_
  rintro e w1 ⟨rfl, hw⟩
  obtain rfl := hw
  go_wp2
  go_ret
  exact ⟨ret_bool HF.out.symm, HB0.out⟩

theorem keep10R {W w1 : World} {b o1 o2 : Nat} {r s : Rs} {pa : Option Addr} {pc : Nat} {qa : Option Addr} {qc : Nat} {pa' : Option Addr} {pc' : Nat} {qa' : Option Addr} {qc' : Nat} (hb : Below W.heap.size W w1) (h1 : b < W.heap.size)
    (h : RsAt W b o1 r pa pc qa qc ∧ RsAt W b o2 s pa' pc' qa' qc') : RsAt w1 b o1 r pa pc qa qc ∧ RsAt w1 b o2 s pa' pc' qa' qc' :=
  ⟨h.1.of (fun o' => (bcellP hb).1 b o' h1), h.2.of (fun o' => (bcellP hb).1 b o' h1)⟩

set_option maxRecDepth 100000 in
set_option maxHeartbeats 4000000 in
theorem ascRes_any (a : Option Addr) (rs : List Rs) (cap B : Nat) (w : World) (h : Rss w B a rs) (hB : B ≤ w.heap.size) (hl : rs.length ≤ maxLen) :
    Calls Tryz.prog 64 #[.slice a rs.length cap, .func (.func 65) #[] #[]] w fun e w' => e = .returned (.bool (ascB lessR rs)) ∧ Below w.heap.size w w' := by
  unfold maxLen at hl
  go_enter Tryz.func64, Tryz.ntmps64
  go_wp2
  go_loopw [5] (fun i wr => ∃ m : Nat, m ≤ rs.length ∧ i = .int .i64 ((m : Int) + 1) ∧ (∀ j (hj : j + 1 < rs.length), j < m → lessR rs[j] rs[j + 1] = true) ∧ Below w.heap.size w wr) (fun i _ => rs.length - (intOf i).toNat)
  case atStart => exact ⟨0, Nat.zero_le _, by simp, fun j _ hj => absurd hj (Nat.not_lt_zero _), Below.refl _ _⟩
  case round =>
    obtain ⟨m, hm, rfl, ht, hbe⟩ := hrel
    have HT := hide ht
    clear ht
    by_cases hlt : m + 1 < rs.length
    · obtain ⟨b, o, rfl, hb, hc⟩ := (h.below hbe hB) (by omega)
      obtain ⟨pa, pc, qa, qc, ha1, hi1⟩ := hc m (by omega)
      obtain ⟨pa', pc', qa', qc', ha2, hi2⟩ := hc (m + 1) hlt
      clear hc
      have hl1 : b < wr.drew.heap.size := by have := hbe.size; show b < wr.heap.size; omega
      have hbd : Below w.heap.size w wr.drew := below_drewP hbe
      have hq := lessRes_any rs[m] rs[m + 1] pa pc qa qc pa' pc' qa' qc' B B wr.drew hi1.drew hi2.drew (Nat.le_trans hB hbd.size) (Nat.le_trans hB hbd.size)
      have HX := hide (And.intro (ha1.of (w' := wr.drew) (fun _ => rfl)) (ha2.of (w' := wr.drew) (fun _ => rfl)))
      obtain ⟨hx0, hx1, hx2, hx3, hx4⟩ := ha1
      obtain ⟨hy0, hy1, hy2, hy3, hy4⟩ := ha2
      have hi1' : IntKind.i64.wrap ((m : Int) + 1 - 1) = (m : Int) := by rw [IntKind.wrap_i64] <;> omega
      have hi2' : ((m : Int) + 1).toNat = m + 1 := by omega
      have hi3 : (m : Int) < (rs.length : Int) := by omega
      have hi4 : (m : Int) + 1 < (rs.length : Int) := by omega
      have hi5 : ¬ ((m : Int) + 1 < 0) := by omega
      have hi6 : IntKind.i64.wrap (m : Int) = (m : Int) := by rw [IntKind.wrap_i64] <;> omega
      have hi7 : (0 : Int) ≤ (m : Int) := by omega
      have hi8 : (0 : Int) ≤ (m : Int) + 1 := by omega
      obtain ⟨z, hz⟩ : ∃ z, lessR rs[m] rs[m + 1] = z := ⟨_, rfl⟩
      rw [hz] at hq
      have HZ := hide hz
      clear hz hi1 hi2
      cases z
      · go_wp2
        go_region_held3 (fun W => (W.cell? ⟨b, o + m * 5, none⟩ = some (.slice pa rs[m].pa.length pc) ∧ W.cell? ⟨b, o + m * 5 + 1, none⟩ = some (.bool rs[m].co) ∧ W.cell? ⟨b, o + m * 5 + 2, none⟩ = some (.string rs[m].bo) ∧ W.cell? ⟨b, o + m * 5 + 3, none⟩ = some (.int .i64 rs[m].ve) ∧ W.cell? ⟨b, o + m * 5 + 4, none⟩ = some (.slice qa rs[m].ps.length qc)) ∧ (W.cell? ⟨b, o + (m + 1) * 5, none⟩ = some (.slice pa' rs[m + 1].pa.length pc') ∧ W.cell? ⟨b, o + (m + 1) * 5 + 1, none⟩ = some (.bool rs[m + 1].co) ∧ W.cell? ⟨b, o + (m + 1) * 5 + 2, none⟩ = some (.string rs[m + 1].bo) ∧ W.cell? ⟨b, o + (m + 1) * 5 + 3, none⟩ = some (.int .i64 rs[m + 1].ve) ∧ W.cell? ⟨b, o + (m + 1) * 5 + 4, none⟩ = some (.slice qa' rs[m + 1].ps.length qc'))) (first | exact HX.out | exact HX2.out) ((go_at_call 65; refine hq.mono ?_; rintro e w1 ⟨rfl, hb3⟩; have HX2 := hide (keep10R hb3 hl1 HX.out)))
        all_goals
          have c1 := hbd.trans (hb3.mono hbd.size)
          clear hq hb3
          go_wp2
          go_ret
          exact ⟨ret_bool (ascB_not lessR rs m hlt HZ.out).symm, c1⟩
      · go_wp2
        go_region_held3 (fun W => (W.cell? ⟨b, o + m * 5, none⟩ = some (.slice pa rs[m].pa.length pc) ∧ W.cell? ⟨b, o + m * 5 + 1, none⟩ = some (.bool rs[m].co) ∧ W.cell? ⟨b, o + m * 5 + 2, none⟩ = some (.string rs[m].bo) ∧ W.cell? ⟨b, o + m * 5 + 3, none⟩ = some (.int .i64 rs[m].ve) ∧ W.cell? ⟨b, o + m * 5 + 4, none⟩ = some (.slice qa rs[m].ps.length qc)) ∧ (W.cell? ⟨b, o + (m + 1) * 5, none⟩ = some (.slice pa' rs[m + 1].pa.length pc') ∧ W.cell? ⟨b, o + (m + 1) * 5 + 1, none⟩ = some (.bool rs[m + 1].co) ∧ W.cell? ⟨b, o + (m + 1) * 5 + 2, none⟩ = some (.string rs[m + 1].bo) ∧ W.cell? ⟨b, o + (m + 1) * 5 + 3, none⟩ = some (.int .i64 rs[m + 1].ve) ∧ W.cell? ⟨b, o + (m + 1) * 5 + 4, none⟩ = some (.slice qa' rs[m + 1].ps.length qc'))) (first | exact HX.out | exact HX2.out) ((go_at_call 65; refine hq.mono ?_; rintro e w1 ⟨rfl, hb3⟩; have HX2 := hide (keep10R hb3 hl1 HX.out)))
        all_goals
          have c1 := hbd.trans (hb3.mono hbd.size)
          clear hq hb3
          go_wp2
          go_roundw
          case rel => exact ⟨m + 1, by omega, by go_num, fun j hj hjm => by
                        by_cases e : j = m
                        · subst e; exact HZ.out
                        · exact HT.out j hj (by omega), c1⟩
          case measure => simp [intOf]; omega
    · have HE := hide (ascB_all lessR rs (fun j hj => HT.out j hj (by omega)))
      go_wp2
      go_ret
      exact ⟨ret_bool HE.out.symm, hbe⟩
end Go.Proofs.YtafdbnadakclnaaGreat
namespace Go.Proofs.YtafdbnadakclnaaGreat
open Go.RowKit Go.Maps M
set_option linter.unusedVariables false

set_option maxRecDepth 100000 in
set_option maxHeartbeats 4000000 in
theorem treeOk_any (a : Option Addr) (rs : List Rs) (cap B : Nat) (w : World) (h : Rss w B a rs) (hB : B ≤ w.heap.size) (hs : ShortT rs) (hl : rs.length ≤ maxLen) :
    Calls Tryz.prog 11 #[.slice a rs.length cap] w fun e w' => e = .returned (.bool (treeB rs)) ∧ Below w.heap.size w w' := by
  have hl' := hl
  unfold maxLen at hl'
  by_cases h12 : rs.length ≤ 12
  · go_enter Tryz.func11, Tryz.ntmps11
    go_wp2
    go_loopw [10] (fun i wr => ∃ k : Nat, k ≤ rs.length ∧ i = .int .i64 k ∧ (∀ j (hj : j < rs.length), j < k → resB rs[j] = true) ∧ Below w.heap.size w wr) (fun i _ => rs.length - (intOf i).toNat)
    case atStart => exact ⟨0, Nat.zero_le _, rfl, fun j _ hj => absurd hj (Nat.not_lt_zero _), Below.refl _ _⟩
    case round =>
      obtain ⟨k, hk, rfl, ht, hbe⟩ := hrel
      have HT := hide ht
      clear ht
      by_cases hlt : k < rs.length
      · obtain ⟨b1, o1, rfl, hb1, hcc⟩ := (h.below hbe hB) (by omega)
        obtain ⟨pa, pc, qa, qc, ⟨hc0, hc1, hc2, hc3, hc4⟩, hin⟩ := hcc k hlt
        clear hcc
        have HBA := hide ((Below.refl wr.heap.size wr).alloc (Nat.le_refl _) (Obj.cells #[.slice pa (rs[k]).pa.length pc, .bool (rs[k]).co, .string (rs[k]).bo, .int .i64 (rs[k]).ve, .slice qa (rs[k]).ps.length qc] 35))
        have HQ := hide (resOk_any rs[k] pa pc qa qc B _ (hin.below HBA.out (Nat.le_trans hB hbe.size)) (Nat.le_trans (Nat.le_trans hB hbe.size) HBA.out.size) (hs.at k hlt))
        obtain ⟨z, hz⟩ : ∃ z, resB rs[k] = z := ⟨_, rfl⟩
        rw [hz] at HQ
        have HZ := hide hz
        clear hz hin
        cases z
        · go_wp2_with fail
          refine HQ.out.mono ?_
          rintro e w1 ⟨rfl, hb3⟩
          have c1 := hbe.trans ((HBA.out.trans (hb3.mono HBA.out.size)).mono hbe.size)
          go_wp2
          go_ret
          exact ⟨ret_bool (treeB_bad k hlt HZ.out).symm, c1⟩
        · go_wp2_with fail
          refine HQ.out.mono ?_
          rintro e w1 ⟨rfl, hb3⟩
          have c1 := hbe.trans ((HBA.out.trans (hb3.mono HBA.out.size)).mono hbe.size)
          go_wp2
          go_roundw
          case rel => exact ⟨k + 1, by omega, by go_num, fun j hj hjk => by
                        by_cases e : j = k
                        · subst e; exact HZ.out
                        · exact HT.out j hj (by omega), c1⟩
          case measure => simp [intOf]; omega
      · have hres : ∀ j (hj : j < rs.length), resB rs[j] = true := fun j hj => HT.out j hj (by omega)
        have HE := hide (treeB_of hres)
        have hmem : ∀ r ∈ rs, resB r = true := fun r hr => by
          obtain ⟨j, hj, rfl⟩ := List.mem_iff_getElem.1 hr
          exact hres j hj
        have HA := hide (ascRes_any a rs cap B wr (h.below hbe hB) (Nat.le_trans hB hbe.size) hl)
        have HLN := hide (fun (e : ascB lessR rs = true) => left_none hmem e)
        have HLK := hide (fun W (hb : Below w.heap.size w W) => lacking_any a rs cap B W (h.below hb hB) (Nat.le_trans hB hb.size) h12 hmem)
        clear hres hmem
        obtain ⟨z, hz⟩ : ∃ z, ascB lessR rs = z := ⟨_, rfl⟩
        rw [hz] at HA HE HLN
        clear hz
        cases z
        · have HR0 := hide (show treeB rs = false by rw [HE.out]; simp)
          go_wp2_with fail
          refine HA.out.mono ?_
          rintro e w1 ⟨rfl, hb1⟩
          have c1 := hbe.trans (hb1.mono hbe.size)
          go_wp2
          go_ret
          exact ⟨ret_bool HR0.out.symm, c1⟩
        · have hr := hide (show treeB rs = rs.all (onB rs) by rw [HE.out]; simp [h12])
          go_wp2_with fail
          refine HA.out.mono ?_
          rintro e w1 ⟨rfl, hb1⟩
          have c1 := hbe.trans (hb1.mono hbe.size)
          have HL1 := hide (HLK.out w1 c1)
          clear hb1 HA HLK
          go_wp2_with fail
          refine HL1.out.mono ?_
          rintro e w2 ⟨rfl, ⟨n, D, hown, hho⟩, hb2⟩
          have c2 := c1.trans (hb2.mono c1.size)
          have hlen := fun ty => hown.len Tryz.underlying80 ty
          have HSZ := hide ((hho.size).trans (HLN.out (by trivial)))
          clear hb2 hown hho HL1 HLN
          go_wp2
          go_ret
          refine ⟨ret_bool ?_, c2⟩
          rw [hr.out]
          cases e : rs.all (onB rs)
          · rw [beq_eq_false_iff_ne]
            intro e2
            have e3 : Maps.size D = 0 := by omega
            have := HSZ.out.1 e3
            rw [e] at this
            cases this
          · rw [beq_iff_eq]
            have := HSZ.out.2 e
            omega
  · have HE := hide (treeB_long h12)
    go_enter Tryz.func11, Tryz.ntmps11
    go_wp2
    go_ret
    exact ⟨ret_bool HE.out.symm, Below.refl _ _⟩
end Go.Proofs.YtafdbnadakclnaaGreat
namespace Go.Proofs.YtafdbnadakclnaaGreat
open Go.RowKit M
set_option linter.unusedVariables false

theorem ret_int10 {a b : Int} (h : a = b) : Ending.returned (.int .i64 a) = .returned (.int .i64 b) := by rw [h]

set_option maxHeartbeats 1000000 in
theorem findRes1_any (r : Rs) (pa : Option Addr) (pc : Nat) (qa : Option Addr) (qc B : Nat) (a' : Option Addr) (p : List ByteArray) (cap' C c : Nat) (w : World) (h : RsIn w B r pa pc qa qc) (h' : Strs w C a' p) (hl' : p.length ≤ maxLen) (hc : w.cell? ⟨c, 0, none⟩ = some (.slice a' p.length cap')) (hB : B ≤ w.heap.size) (hC : C ≤ w.heap.size) (hcl : c < w.heap.size) :
    Calls Tryz.prog 68 #[.agg #[.slice pa r.pa.length pc, .bool r.co, .string r.bo, .int .i64 r.ve, .slice qa r.ps.length qc], .pointer (some ⟨c, 0, none⟩)] w fun e w' => e = .returned (.bool (sameL r.pa p)) ∧ Below w.heap.size w w' := by
  have l1 : r.pa.length ≤ maxLen := Nat.le_trans h.pl h.pm
  have p1 := h.ph
  clear h
  obtain ⟨ss, co, bo, ve, ps⟩ := r
  simp only at *
  have hb0 : Below w.heap.size w (w.alloc (Obj.cells #[.slice pa ss.length pc, .bool co, .string bo, .int .i64 ve, .slice qa ps.length qc] 35)) := (Below.refl _ _).alloc (Nat.le_refl _) _
  have HE := hide (samePath_any pa a' ss p pc cap' B C _ (p1.below hb0 hB) (h'.below hb0 hC) l1 hl')
  have HB0 := hide hb0
  have hc0 := (hb0.cell (p := ⟨c, 0, none⟩) hcl).trans hc
  clear p1 h' hb0 hc
  go_enter Tryz.func68, Tryz.ntmps68
  go_wp2_with fail
  refine HE.out.mono ?_
  rintro e w1 ⟨rfl, hb1⟩
  have HC1 := hide (HB0.out.trans (hb1 _))
  clear hb1
  go_wp2
  go_ret
  exact ⟨rfl, HC1.out⟩

set_option maxHeartbeats 1000000 in
theorem indexFunc_any (a : Option Addr) (rs : List Rs) (cap B : Nat) (a' : Option Addr) (p : List ByteArray) (cap' C c : Nat) (w : World) (h : Rss w B a rs) (h' : Strs w C a' p) (hl : rs.length ≤ maxLen) (hl' : p.length ≤ maxLen) (hc : w.cell? ⟨c, 0, none⟩ = some (.slice a' p.length cap')) (hB : B ≤ w.heap.size) (hC : C ≤ w.heap.size) (hcl : c < w.heap.size) :
    Calls Tryz.prog 67 #[.slice a rs.length cap, .func (.func 68) #[] #[.pointer (some ⟨c, 0, none⟩)]] w fun e w' => e = .returned (.int .i64 (findI rs p)) ∧ Below w.heap.size w w' := by
  unfold maxLen at hl
  go_enter Tryz.func67, Tryz.ntmps67
  go_wp2
  go_loopw [8] (fun i wr => ∃ k : Nat, k ≤ rs.length ∧ i = .int .i64 k ∧ (∀ j (hj : j < rs.length), j < k → sameL rs[j].pa p = false) ∧ Below w.heap.size w wr) (fun i _ => rs.length - (intOf i).toNat)
  case atStart => exact ⟨0, Nat.zero_le _, rfl, fun j _ hj => absurd hj (Nat.not_lt_zero _), Below.refl _ _⟩
  case round =>
    obtain ⟨k, hk, rfl, ht, hbe⟩ := hrel
    have HT := hide ht
    clear ht
    by_cases hlt : k < rs.length
    · obtain ⟨b, o, rfl, hb, hcc⟩ := (h.below hbe hB) (by omega)
      obtain ⟨pa, pc, qa, qc, ⟨hc0, hc1, hc2, hc3, hc4⟩, hin⟩ := hcc k hlt
      clear hcc
      have HC := hide (findRes1_any rs[k] pa pc qa qc B a' p cap' C c wr hin (h'.below hbe hC) hl' ((hbe.cell (p := ⟨c, 0, none⟩) hcl).trans hc) (Nat.le_trans hB hbe.size) (Nat.le_trans hC hbe.size) (Nat.lt_of_lt_of_le hcl hbe.size))
      obtain ⟨z, hz⟩ : ∃ z, sameL rs[k].pa p = z := ⟨_, rfl⟩
      rw [hz] at HC
      have HZ := hide hz
      clear hz hin
      go_wp2_with fail
      refine HC.out.mono ?_
      rintro e w1 ⟨rfl, hb1⟩
      have c1 := hbe.trans (hb1.mono hbe.size)
      clear HC
      cases z
      · go_wp2
        go_roundw
        case rel => exact ⟨k + 1, by omega, by go_num, fun j hj hjk => by
                      by_cases e : j = k
                      · subst e; exact HZ.out
                      · exact HT.out j hj (by omega), c1⟩
        case measure => simp [intOf]; omega
      · go_wp2
        go_ret
        exact ⟨ret_int10 (findI_at k hlt HT.out HZ.out).symm, c1⟩
    · have HE := hide (findI_none (rs := rs) (p := p) (fun j hj => HT.out j hj (by omega)))
      go_wp2
      go_ret
      exact ⟨ret_int10 HE.out.symm, hbe⟩

set_option maxHeartbeats 1000000 in
theorem findRes_any (a : Option Addr) (rs : List Rs) (cap B : Nat) (a' : Option Addr) (p : List ByteArray) (cap' C : Nat) (w : World) (h : Rss w B a rs) (h' : Strs w C a' p) (hl : rs.length ≤ maxLen) (hl' : p.length ≤ maxLen) (hB : B ≤ w.heap.size) (hC : C ≤ w.heap.size) :
    Calls Tryz.prog 13 #[.slice a rs.length cap, .slice a' p.length cap'] w fun e w' => e = .returned (.int .i64 (findI rs p)) ∧ Below w.heap.size w w' := by
  have hb0 : Below w.heap.size w (w.alloc (Obj.cells #[.slice a' p.length cap'] 25)) := (Below.refl _ _).alloc (Nat.le_refl _) _
  have HE := hide (indexFunc_any a rs cap B a' p cap' C w.heap.size _ (h.below hb0 hB) (h'.below hb0 hC) hl hl' (by simp) (Nat.le_trans hB hb0.size) (Nat.le_trans hC hb0.size) (by simp))
  have HB0 := hide hb0
  clear h h' hb0
  go_enter Tryz.func13, Tryz.ntmps13
  go_wp2_with fail
  refine HE.out.mono ?_
  rintro e w1 ⟨rfl, hb1⟩
  have c1 := HB0.out.trans (hb1.mono HB0.out.size)
  go_wp2
  go_ret
  exact ⟨rfl, c1⟩
end Go.Proofs.YtafdbnadakclnaaGreat
namespace Go.Proofs.YtafdbnadakclnaaGreat
open Go.RowKit M
set_option linter.unusedVariables false

/-- Whether it is the root, or there. -/
def thereB (rs : List Rs) (p : List ByteArray) : Bool := decide (p.length = 0) || decide (0 ≤ findI rs p)
theorem there_iff {rs : List Rs} {p : List ByteArray} : thereB rs p = true ↔ p.length = 0 ∨ 0 ≤ findI rs p := by unfold thereB; simp

set_option maxHeartbeats 1000000 in
theorem isThere_any (a : Option Addr) (rs : List Rs) (cap B : Nat) (a' : Option Addr) (p : List ByteArray) (cap' C : Nat) (w : World) (h : Rss w B a rs) (h' : Strs w C a' p) (hl : rs.length ≤ maxLen) (hl' : p.length ≤ maxLen) (hB : B ≤ w.heap.size) (hC : C ≤ w.heap.size) :
    Calls Tryz.prog 104 #[.slice a rs.length cap, .slice a' p.length cap'] w fun e w' => e = .returned (.bool (thereB rs p)) ∧ Below w.heap.size w w' := by
  have HF := hide (findRes_any a rs cap B a' p cap' C w h h' hl hl' hB hC)
  by_cases h0 : p.length = 0
  · have HZ := hide (show thereB rs p = true from there_iff.2 (.inl h0))
    clear HF
    go_enter Tryz.func104, Tryz.ntmps104
    go_wp2
    go_ret
    exact ⟨by rw [HZ.out]; rfl, Below.refl _ _⟩
  · have HZ := hide (show thereB rs p = decide (0 ≤ findI rs p) by unfold thereB; simp [h0])
    have e0 : ((p.length : Int) == 0) = false := by rw [beq_eq_false_iff_ne]; omega
    generalize thereB rs p = z at *
    generalize findI rs p = F at *
    go_enter Tryz.func104, Tryz.ntmps104
    go_wp2_with fail
    refine HF.out.mono ?_
    rintro e w1 ⟨rfl, b1⟩
    go_wp2
    go_ret
    exact ⟨by rw [HZ.out]; rfl, b1⟩
end Go.Proofs.YtafdbnadakclnaaGreat
