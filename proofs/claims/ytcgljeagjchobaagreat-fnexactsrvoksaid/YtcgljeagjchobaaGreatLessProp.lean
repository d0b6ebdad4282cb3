/-
  What the program's PathText does.
  Which paths are left over; a map of their texts.
  What impl.lacking does.
  What cmp.Compare[string] does.
  Whether a list of texts comes ahead of another: what cmp.Compare[string], slices.Compare[[]string,string] and impl.LessPath do.
  What the program's allOf does: whether all bytes of a text are of one of these kinds.
  What the program's Plain does.
  What the specification's l1Digit does.
  What l1Small and SmallName (the specification's) do.
  What SmallName (the program's) does.
  What impl.propOk, cmp.Or[int] and impl.lessProp do.
  What impl.lessProp does.
-/
import Derived.Test.YtcgljeagjchobaaGreatLockOkI
import Derived.Test.YtcgljeagjchobaaGreatQuote
import Derived.Test.YtcgljeagjchobaaGreatMathLocks
import Derived.Test.YtcgljeagjchobaaGreatGenSrv
import Derived.Test.YtcgljeagjchobaaGreatTurn
import Derived.Test.YtcgljeagjchobaaGreatMathOrder
import Derived.Test.YtcgljeagjchobaaGreatMathSmall
import Derived.Test.YtcgljeagjchobaaGreatProps
import Derived.Deep.RegionHeld3
namespace Go.Proofs.YtcgljeagjchobaaGreat
open Go.RowKit M
set_option linter.unusedVariables false

set_option maxHeartbeats 1000000 in
theorem pathText_any (a : Option Addr) (ss : List ByteArray) (cap : Nat) (w : World) (h : Strs w w.heap.size a ss) (hs : Short ss) (hl : ss.length ≤ maxLen) :
    Calls Tryz.prog 103 #[.slice a ss.length cap] w fun e w' => e = .returned (.string (bytesOf (ptextL ss))) ∧ Below w.heap.size w w' := by
  have hl' := hl
  unfold maxLen at hl'
  cases hp : pathB ss
  · go_enter Tryz.func103, Tryz.ntmps103
    go_wp2_with fail
    refine (pathOk_any a ss cap w h hs hl).mono ?_
    rintro e w1 ⟨rfl, b1⟩
    rw [hp]
    go_wp2
    go_ret
    exact ⟨by rw [ptextL_not hp]; rfl, b1⟩
  · have h4 := pathB_len hp
    have hmk := fun w => run_make_row' (P := Tryz.prog) 42 9 (.string ByteArray.empty) 16 Tryz.underlying42 info_str rfl .i64 .i64 ss.length (by omega) (by omega) w
    go_enter Tryz.func103, Tryz.ntmps103
    go_wp2_with fail
    refine (pathOk_any a ss cap w h hs hl).mono ?_
    rintro e w1 ⟨rfl, b1⟩
    rw [hp]
    go_wp2
    clear hmk
    go_loopw [14] (fun i wr => ∃ k : Nat, k ≤ ss.length ∧ i = .int .i64 k ∧ wr.rowIs w1.heap.size 9 ss.length (fun j => if j < k then .string ((ss.map qB).getD j ByteArray.empty) else .string ByteArray.empty) ∧ Below w1.heap.size w1 wr) (fun i _ => ss.length - (intOf i).toNat)
    case atStart => exact ⟨0, Nat.zero_le _, rfl, (World.rowIs_made w1 _ _ _).congr (fun i _ => by simp), (Below.refl _ _).alloc (Nat.le_refl _) _⟩
    case round =>
      obtain ⟨k, hk, rfl, hrow, hbe⟩ := hrel
      by_cases hlt : k < ss.length
      · have h8 := nameB_size (pathB_name hp k hlt)
        obtain ⟨b, o, rfl, hb, hc⟩ := ((h.below b1 (Nat.le_refl _)).below hbe b1.size) (by omega)
        have hcx := hc k hlt
        go_wp2_with fail
        refine (quote_any _ wr (by omega)).mono ?_
        rintro e w2 ⟨rfl, b2⟩
        have hrow1 := hrow.of_block (b2.block _ hrow.lt)
        have hcn := hrow1.cell hlt
        have hfn := hrow1.frozen k
        have hrow2 := (hrow1.set k (.string ⟨(quoteL (ss[k]).data.toList).toArray⟩)).congr (g := fun j => if j < k + 1 then .string ((ss.map qB).getD j ByteArray.empty) else .string ByteArray.empty) (fun j hj => by
          by_cases e : j = k
          · subst e; simp [List.getD, List.getElem?_eq_getElem hlt, qB, bytesOf]
          · simp only [e, if_false]
            by_cases e2 : j < k
            · rw [if_pos e2, if_pos (by omega)]
            · rw [if_neg e2, if_neg (by omega)])
        have HR : Hid _ := hrow2
        clear hrow2
        go_wp2
        go_roundw
        case rel => exact ⟨k + 1, by omega, by go_num, HR.out, (hbe.trans (b2.mono hbe.size)).setCell (Nat.le_refl _) _⟩
        case measure => simp [intOf]; omega
      · have hJ := Tryz.strings_Join w1.heap.size 0 ss.length (ss.map qB) ⟨#[47]⟩ wr (fun j x hx => by
            have hj : j < ss.length := by have := (List.getElem?_eq_some_iff.1 hx).1; simpa using this
            rw [Nat.zero_add, hrow.cell hj, if_pos (by omega)]
            rw [List.getD_eq_getElem?_getD, hx]; rfl) hrow.lt (by simp; omega) (by simp) (by have := join_le hp; exact Nat.le_trans this (by decide))
        rw [List.length_map, List.map_map] at hJ
        have HJ : Hid (bytesOf [47] ++ (⟨(Lib.join (ss.map ((fun x : ByteArray => x.data.toList) ∘ qB)) [47]).toArray⟩ : ByteArray) = bytesOf (ptextL ss)) := by
          show bytesOf [47] ++ bytesOf _ = _
          rw [bytesOf_append, ← List.map_map]
          by_cases h0 : ss = []
          · subst h0; rw [ptextL_nil]; rfl
          · rw [ptextL_some hp h0]; exact congrArg bytesOf (tellL_join ss h0)
        have hz := join_le hp
        rw [List.map_map] at hz
        go_wp2_with fail
        refine hJ.mono ?_
        rintro e w2 ⟨rfl, b2⟩
        go_wp2
        go_ret
        exact ⟨by rw [← HJ.out]; rfl, b1.trans ((hbe.mono b1.size).trans (b2.mono (Nat.le_trans b1.size hbe.size)))⟩
end Go.Proofs.YtcgljeagjchobaaGreat
namespace Go.Proofs.YtcgljeagjchobaaGreat
open Go.RowKit Go.Maps M
open Go.WideMaps (keyOf_string_mk)
set_option linter.unusedVariables false

theorem lawStr : Keyed Tryz.prog 9 := string_keyed Tryz.underlying9
theorem zeroInt (w : World) : (zeroValue 3).run Tryz.prog w = .ok (.int .i64 0) w := by kernel_rfl
/-- The map of a call, behind a call that only made memory. -/
theorem own_below {w w' : World} {b n : Nat} {D : DataW Unit} (h : w.ownsMap Tryz.prog 9 (plainElem Tryz.prog 3) b n D) (hb : Below w.heap.size w w') : w'.ownsMap Tryz.prog 9 (plainElem Tryz.prog 3) b n D :=
  h.kept (row := none) ⟨hb.os, hb.tape, hb.output, hb.size, fun k hk _ => hb.block k hk⟩ (by simp)
theorem pt_size (p : List ByteArray) : (pt p).size ≤ maxLen := by
  have := ptextL_len (ss := p)
  have e : (pt p).size = (ptextL p).length := by unfold pt; rw [bytesOf_size]
  rw [e]; unfold maxLen; omega
theorem pt_key (p : List ByteArray) : keyOf Tryz.prog 9 (.string (pt p)) = some (.string (pt p).data.toList) := keyOf_string_mk Tryz.underlying9 (pt_size p)
theorem name_size {p : List ByteArray} (h : pathB p = true) : ∀ s ∈ p, s.size ≤ 8 := fun s hs => nameB_size (pathB_all h s hs)
theorem short_path {p : List ByteArray} (h : pathB p = true) : Short p := fun s hs => by have := name_size h s hs; unfold maxLen; omega

def P1 (rs : List Rs) (k : Nat) (s : ByteArray) : Prop := ∃ r ∈ rs.take k, s = pt (aboveL r.pa)
def P2 (rs : List Rs) (k : Nat) (s : ByteArray) : Prop := ((∃ r ∈ rs, s = pt (aboveL r.pa)) ∧ s ≠ pt []) ∧ ∀ r ∈ rs.take k, r.co = true → s ≠ pt r.pa
theorem P1_next {rs : List Rs} {k : Nat} (hk : k < rs.length) (s : ByteArray) : (s = pt (aboveL rs[k].pa) ∨ P1 rs k s) ↔ P1 rs (k + 1) s := by
  unfold P1
  rw [List.take_succ_eq_append_getElem hk]
  constructor
  · rintro (h | ⟨r, hr, h⟩)
    · exact ⟨_, List.mem_append_right _ (List.mem_singleton.2 rfl), h⟩
    · exact ⟨r, List.mem_append_left _ hr, h⟩
  · rintro ⟨r, hr, h⟩
    rcases List.mem_append.1 hr with hr | hr
    · exact .inr ⟨r, hr, h⟩
    · simp at hr; subst hr; exact .inl h
theorem P2_yes {rs : List Rs} {k : Nat} (hk : k < rs.length) (hc : rs[k].co = true) (s : ByteArray) : (P2 rs k s ∧ s ≠ pt rs[k].pa) ↔ P2 rs (k + 1) s := by
  unfold P2
  rw [List.take_succ_eq_append_getElem hk]
  constructor
  · rintro ⟨⟨h1, h2⟩, h3⟩
    refine ⟨h1, fun r hr hc' => ?_⟩
    rcases List.mem_append.1 hr with hr | hr
    · exact h2 r hr hc'
    · simp at hr; subst hr; exact h3
  · rintro ⟨h1, h2⟩
    exact ⟨⟨h1, fun r hr hc' => h2 r (List.mem_append_left _ hr) hc'⟩, h2 _ (List.mem_append_right _ (List.mem_singleton.2 rfl)) hc⟩
theorem P2_no {rs : List Rs} {k : Nat} (hk : k < rs.length) (hc : rs[k].co = false) (s : ByteArray) : P2 rs k s ↔ P2 rs (k + 1) s := by
  unfold P2
  rw [List.take_succ_eq_append_getElem hk]
  constructor
  · rintro ⟨h1, h2⟩
    refine ⟨h1, fun r hr hc' => ?_⟩
    rcases List.mem_append.1 hr with hr | hr
    · exact h2 r hr hc'
    · simp at hr; subst hr; rw [hc] at hc'; cases hc'
  · rintro ⟨h1, h2⟩
    exact ⟨h1, fun r hr hc' => h2 r (List.mem_append_left _ hr) hc'⟩

end Go.Proofs.YtcgljeagjchobaaGreat
namespace Go.Proofs.YtcgljeagjchobaaGreat
open Go.RowKit Go.Maps M
open Go.WideMaps (keyOf_string_mk)
set_option linter.unusedVariables false

set_option maxRecDepth 100000 in
set_option maxHeartbeats 4000000 in
theorem lacking_any (a : Option Addr) (rs : List Rs) (cap B : Nat) (w : World) (h : Rss w B a rs) (hB : B ≤ w.heap.size) (hl : rs.length ≤ 12) (hr : ∀ r ∈ rs, resB r = true) :
    Calls Tryz.prog 64 #[.slice a rs.length cap] w fun e w' => e = .returned (.map (some w.heap.size)) ∧ (∃ n D, w'.ownsMap Tryz.prog 9 (plainElem Tryz.prog 3) w.heap.size n D ∧ Holds D (LeftP rs)) ∧ Below w.heap.size w w' := by
  have hmm := @run_makeMap Tryz.prog
  have HRB := hide hr
  clear hr
  go_enter Tryz.func64, Tryz.ntmps64
  go_wp2
  go_loopw [11] (fun i wr => ∃ (k : Nat) (D : DataW Unit), k ≤ rs.length ∧ i = .int .i64 k ∧ wr.ownsMap Tryz.prog 9 (plainElem Tryz.prog 3) w.heap.size k D ∧ Holds D (P1 rs k) ∧ Below w.heap.size w wr) (fun i _ => rs.length - (intOf i).toNat)
  case atStart => exact ⟨0, .map [], Nat.zero_le _, rfl, World.ownsMap_made _ _ _ _, Holds.nil.same (fun s => ⟨(fun h => h.elim), (fun ⟨r, hr, _⟩ => by simp at hr)⟩), (Below.refl _ _).alloc (Nat.le_refl _) _⟩
  case round =>
    obtain ⟨k, D, hk, rfl, hown, hho, hbe⟩ := hrel
    have HHO := hide hho
    clear hho
    by_cases hlt : k < rs.length
    · obtain ⟨b1, o1, rfl, hb1, hcc⟩ := (h.below hbe hB) (by omega)
      obtain ⟨pa, pc, qa, qc, ⟨hc0, hc1, hc2, hc3, hc4⟩, hin⟩ := hcc k hlt
      clear hcc
      have hrb := HRB.out _ (List.getElem_mem hlt)
      have hpb := resB_path hrb
      have h4 := pathB_len hpb
      have hpa := pathB_above hpb
      have h0 : 0 < rs[k].pa.length := by
        unfold resB at hrb
        simp only [Bool.and_eq_true, decide_eq_true_eq] at hrb
        exact hrb.1
      have HBA := hide ((Below.refl wr.heap.size wr).alloc (Nat.le_refl _) (Obj.cells #[.slice pa (rs[k]).pa.length pc, .bool (rs[k]).co, .string (rs[k]).bo, .int .i64 (rs[k]).ve, .slice qa (rs[k]).ps.length qc] 45))
      have hin2 := hin.below HBA.out (Nat.le_trans hB hbe.size)
      obtain ⟨b2, o2, rfl, _, _⟩ := hin2.ph h0
      have HA := hide (above_any b2 o2 rs[k].pa pc B _ hin2.ph (Nat.le_trans (Nat.le_trans hB hbe.size) HBA.out.size) (by omega) (fun s hs => by have := name_size hpb s hs; omega) hin2.pl hin2.pm)
      have hal : (aboveL rs[k].pa).length ≤ maxLen := by rw [aboveL_len]; unfold maxLen; omega
      have HT := hide (fun W g c (x : RowS W g (aboveL rs[k].pa)) => pathText_any (some ⟨g, 0, none⟩) (aboveL rs[k].pa) c W (x.strs' x.1) (short_path hpa) hal)
      have HN := hide (fun s => P1_next hlt s)
      have hkey := pt_key (aboveL rs[k].pa)
      have hzz : (0 : Nat) < 1 := by omega
      clear hrb hpb hpa h0 hin hin2
      go_wp2_with fail
      refine HA.out.mono ?_
      rintro e w1 ⟨rfl, r1, b3⟩
      have b4 := HBA.out.trans (b3.mono HBA.out.size)
      have r1' : RowS w1 (wr.heap.size + 1) (aboveL rs[k].pa) := by simpa using r1
      have HT1 := hide (HT.out w1 (wr.heap.size + 1) (aboveL rs[k].pa).length r1')
      clear r1 r1' b3 HA HT
      go_wp2_with fail
      refine HT1.out.mono ?_
      rintro e w2 ⟨rfl, b5⟩
      have b6 := b4.trans (b5.mono b4.size)
      have c2 := hbe.trans (b6.mono hbe.size)
      have hown2 := own_below hown b6
      have HK : Hid (keyOf Tryz.prog 9 (.string (bytesOf (ptextL (aboveL rs[k].pa)))) = some (.string (pt (aboveL rs[k].pa)).data.toList)) := hkey
      clear hown b4 b5 b6 HT1 hkey
      go_wp2_with (first
        | (at_lookup; refine wpList_lookup_own_int _ rfl _ _ 88 rfl 9 3 .i64 lawStr Tryz.underlying88 Tryz.underlying3 (zeroInt _) w.heap.size k _ rfl hown2 _ _ rfl HK.out ?_; intro c hat hwc)
        | (at_mapUpdate; refine wpList_mapUpdate_own _ rfl _ _ _ 88 rfl 9 3 lawStr Tryz.underlying88 _ w.heap.size k _ rfl hown2 (by unfold maxLen; omega) _ _ _ rfl rfl HK.out _ [] (plainElem_int Tryz.underlying3 (wrap64_wf _)) ?_; intro w3 hown3 hgrow3))
      go_roundw
      case rel => exact ⟨k + 1, _, by omega, by go_num, hown3, (HHO.out.put (pt (aboveL rs[k].pa)) _).same (HN.out), c2.grown hgrow3 c2.size (fun j hj => by cases hj; exact Nat.le_refl _)⟩
      case measure => simp [intOf]; omega
    · have HN : Hid (∀ s, P1 rs k s ↔ ∃ r ∈ rs, s = pt (aboveL r.pa)) := fun s => by unfold P1; rw [List.take_of_length_le (by omega)]
      have HT := hide (pathText_any none [] 0 wr (fun hh => absurd hh (by simp)) (fun s hs => by cases hs) (Nat.zero_le _))
      have hkey := pt_key []
      go_wp2_with fail
      refine HT.out.mono ?_
      rintro e w2 ⟨rfl, b5⟩
      have c2 := hbe.trans (b5.mono hbe.size)
      have hown2 := own_below hown b5
      have HK : Hid (keyOf Tryz.prog 9 (.string (bytesOf (ptextL []))) = some (.string (pt []).data.toList)) := hkey
      have hho2 := ((HHO.out.del (pt [])).same (Q := P2 rs 0) (fun s => by
        unfold P2
        rw [HN.out s]
        simp))
      have HHO2 := hide hho2
      clear hown b5 hkey hho2 HT HHO
      go_wp2_with (at_delete; refine wpList_delete_own _ rfl _ _ 88 9 rfl 3 lawStr Tryz.underlying88 _ w.heap.size k _ rfl hown2 _ _ rfl HK.out ?_; intro w3 hown3 hturn3)
      have c3 : Below w.heap.size w w3 := c2.grown hturn3.grown c2.size (fun j hj => by cases hj; exact Nat.le_refl _)
      clear hown2 c2 HK hturn3
      go_loopw [27] (fun i wr => ∃ (k n : Nat) (D : DataW Unit), k ≤ rs.length ∧ i = .int .i64 k ∧ wr.ownsMap Tryz.prog 9 (plainElem Tryz.prog 3) w.heap.size n D ∧ Holds D (P2 rs k) ∧ Below w.heap.size w wr) (fun i _ => rs.length - (intOf i).toNat)
      case atStart => exact ⟨0, k, _, Nat.zero_le _, rfl, hown3, HHO2.out, c3⟩
      case round =>
        clear HN
        obtain ⟨k, n, D, hk, rfl, hown, hho, hbe⟩ := hrel
        have HHO := hide hho
        clear hho
        by_cases hlt : k < rs.length
        · obtain ⟨b1, o1, rfl, hb1, hcc⟩ := (h.below hbe hB) (by omega)
          obtain ⟨pa, pc, qa, qc, ⟨hc0, hc1, hc2, hc3, hc4⟩, hin⟩ := hcc k hlt
          clear hcc
          have hpb := resB_path (HRB.out _ (List.getElem_mem hlt))
          have h4 := pathB_len hpb
          have HBA := hide ((Below.refl wr.heap.size wr).alloc (Nat.le_refl _) (Obj.cells #[.slice pa (rs[k]).pa.length pc, .bool (rs[k]).co, .string (rs[k]).bo, .int .i64 (rs[k]).ve, .slice qa (rs[k]).ps.length qc] 45))
          have hin2 := hin.below HBA.out (Nat.le_trans hB hbe.size)
          have HT := hide (pathText_any pa rs[k].pa pc _ (hin2.ph.mono (Nat.le_trans (Nat.le_trans hB hbe.size) HBA.out.size)) (short_path hpb) (by unfold maxLen; omega))
          have hkey := pt_key rs[k].pa
          have HY := hide (fun hc s => P2_yes hlt hc s)
          have HZ := hide (fun hc s => P2_no hlt hc s)
          clear hpb hin hin2
          obtain ⟨z, hz⟩ : ∃ z, rs[k].co = z := ⟨_, rfl⟩
          rw [hz] at hc1 HBA HT
          have HZZ := hide hz
          clear hz
          cases z
          · have hown2 := own_below hown HBA.out
            have c2 := hbe.trans (HBA.out.mono hbe.size)
            go_wp2
            go_roundw
            case rel => exact ⟨k + 1, n, D, by omega, by go_num, hown2, HHO.out.same (HZ.out HZZ.out), c2⟩
            case measure => simp [intOf]; omega
          · go_wp2_with fail
            refine HT.out.mono ?_
            rintro e w2 ⟨rfl, b5⟩
            have b6 := HBA.out.trans (b5.mono HBA.out.size)
            have c2 := hbe.trans (b6.mono hbe.size)
            have hown2 := own_below hown b6
            have HK : Hid (keyOf Tryz.prog 9 (.string (bytesOf (ptextL rs[k].pa))) = some (.string (pt rs[k].pa).data.toList)) := hkey
            clear hown b5 b6 HT hkey
            go_wp2_with (at_delete; refine wpList_delete_own _ rfl _ _ 88 9 rfl 3 lawStr Tryz.underlying88 _ w.heap.size n _ rfl hown2 _ _ rfl HK.out ?_; intro w3 hown3 hturn3)
            go_roundw
            case rel => exact ⟨k + 1, n, _, by omega, by go_num, hown3, (HHO.out.del (pt rs[k].pa)).same (HY.out HZZ.out), c2.grown hturn3.grown c2.size (fun j hj => by cases hj; exact Nat.le_refl _)⟩
            case measure => simp [intOf]; omega
        · have HL : Hid (∀ s, P2 rs k s ↔ LeftP rs s) := fun s => by unfold P2 LeftP; rw [List.take_of_length_le (by omega)]
          go_wp2
          go_ret
          exact ⟨rfl, ⟨n, D, hown, HHO.out.same HL.out⟩, hbe⟩
end Go.Proofs.YtcgljeagjchobaaGreat
namespace Go.Proofs.YtcgljeagjchobaaGreat
open Go.RowKit M
set_option linter.unusedVariables false

theorem neStr {x y : ByteArray} (h : ¬ x = y) : (x.toList == y.toList) = false := by
  rw [beq_eq_false_iff_ne]; exact fun e => h (str_inj e)

set_option maxHeartbeats 400000 in
theorem isNaN_any (x : ByteArray) (w : World) : Calls Tryz.prog 154 #[.string x] w fun e w' => e = .returned (.bool false) ∧ w' = w := by
  go_enter Tryz.func154, Tryz.ntmps154
  go_wp2
  go_ret
  exact ⟨ret_bool (by simp), rfl⟩

set_option maxHeartbeats 400000 in
theorem compare_any (x y : ByteArray) (w : World) : Calls Tryz.prog 142 #[.string x, .string y] w fun e w' => e = .returned (.int .i64 (cmpT x y)) ∧ w' = w := by
  by_cases h1 : lessT x y = true
  · have e1 : cmpT x y = -1 := by unfold cmpT; rw [if_pos h1]
    rw [e1]
    unfold lessT at h1
    go_enter Tryz.func142, Tryz.ntmps142
    go_wp2_with fail
    refine (isNaN_any x w).mono ?_
    rintro e w1 ⟨rfl, hw⟩; obtain rfl := hw.symm
    go_wp2_with fail
    refine (isNaN_any y w).mono ?_
    rintro e w1 ⟨rfl, hw⟩; obtain rfl := hw.symm
    go_wp2
    go_ret
    exact ⟨rfl, rfl⟩
  · by_cases h2 : x = y
    · subst h2
      rw [cmpT_same]
      have h1' : Op.bytesLess x.toList x.toList = false := by simpa [lessT] using h1
      go_enter Tryz.func142, Tryz.ntmps142
      go_wp2_with fail
      refine (isNaN_any x w).mono ?_
      rintro e w1 ⟨rfl, hw⟩; obtain rfl := hw.symm
      go_wp2_with fail
      refine (isNaN_any x w).mono ?_
      rintro e w1 ⟨rfl, hw⟩; obtain rfl := hw.symm
      go_wp2
      go_ret
      exact ⟨rfl, rfl⟩
    · have e1 : cmpT x y = 1 := by unfold cmpT; rw [if_neg h1, if_neg h2]
      rw [e1]
      have h1' : Op.bytesLess x.toList y.toList = false := by simpa [lessT] using h1
      have h2' := neStr h2
      go_enter Tryz.func142, Tryz.ntmps142
      go_wp2_with fail
      refine (isNaN_any x w).mono ?_
      rintro e w1 ⟨rfl, hw⟩; obtain rfl := hw.symm
      go_wp2_with fail
      refine (isNaN_any y w).mono ?_
      rintro e w1 ⟨rfl, hw⟩; obtain rfl := hw.symm
      go_wp2
      go_ret
      exact ⟨rfl, rfl⟩
end Go.Proofs.YtcgljeagjchobaaGreat
namespace Go.Proofs.YtcgljeagjchobaaGreat
open Go.RowKit M
set_option linter.unusedVariables false

set_option maxHeartbeats 400000 in
theorem slicesCompare_any (a b : Option Addr) (ss tt : List ByteArray) (cap cap' B C : Nat) (w : World) (h : Strs w B a ss) (h' : Strs w C b tt) (hl : ss.length ≤ maxLen) (hl' : tt.length ≤ maxLen) :
    Calls Tryz.prog 129 #[.slice a ss.length cap, .slice b tt.length cap'] w fun e w' => (∃ z : Int, e = .returned (.int .i64 z) ∧ decide (z < 0) = lessL ss tt) ∧ w' = w := by
  unfold maxLen at hl hl'
  go_enter Tryz.func129, Tryz.ntmps129
  go_wp2
  go_loop [11] (fun i => ∃ k : Nat, k ≤ ss.length ∧ k ≤ tt.length ∧ i = .int .i64 k ∧ lessL (ss.drop k) (tt.drop k) = lessL ss tt) (fun i => ss.length - (intOf i).toNat)
  case atStart => exact ⟨0, Nat.zero_le _, Nat.zero_le _, rfl, rfl⟩
  case round =>
    obtain ⟨k, hk, hk', rfl, ht⟩ := hrel
    have HT := hide ht
    clear ht
    by_cases hlt : k < ss.length
    · by_cases hlt' : k < tt.length
      · obtain ⟨b1, o1, rfl, hb1, hc1⟩ := h (by omega)
        obtain ⟨b2, o2, rfl, hb2, hc2⟩ := h' (by omega)
        have hcx := hc1 k hlt
        have hcy := hc2 k hlt'
        clear hc1 hc2
        go_wp2_with fail
        refine (compare_any ss[k] tt[k] w).mono ?_
        rintro e w1 ⟨rfl, hw⟩; obtain rfl := hw.symm
        by_cases he : ss[k] = tt[k]
        · have hz : cmpT ss[k] tt[k] = 0 := by rw [he]; exact cmpT_same _
          rw [hz]
          have HE := hide (lessL_step k hlt hlt' he)
          clear he hz
          go_wp2
          go_round
          case rel => exact ⟨k + 1, by omega, by omega, by go_num, by rw [← HE.out]; exact HT.out⟩
          case measure => simp [intOf]; omega
        · have hz : ¬ cmpT ss[k] tt[k] = 0 := fun e => he (cmpT_zero _ _ e)
          have HE := hide (lessL_at k hlt hlt' he)
          have HC := hide (cmpT_neg ss[k] tt[k])
          generalize cmpT ss[k] tt[k] = z at *
          clear he
          go_wp2
          go_ret
          exact ⟨⟨z, rfl, by rw [HC.out, ← HE.out]; exact HT.out⟩, rfl⟩
      · have HE := hide (lessL_end k (fun h => hlt' h.2) hk hk')
        have hnl : ¬ ss.length < tt.length := by omega
        obtain ⟨b1, o1, rfl, hb1, hc1⟩ := h (by omega)
        have hcx := hc1 k hlt
        go_wp2
        go_ret
        exact ⟨⟨1, rfl, by rw [← HT.out, HE.out]; simp [hnl]⟩, rfl⟩
    · have HE := hide (lessL_end k (fun h => hlt h.1) hk hk')
      by_cases hnl : ss.length < tt.length
      · go_wp2
        go_ret
        exact ⟨⟨-1, rfl, by rw [← HT.out, HE.out]; simp [hnl]⟩, rfl⟩
      · go_wp2
        go_ret
        exact ⟨⟨0, rfl, by rw [← HT.out, HE.out]; simp [hnl]⟩, rfl⟩

set_option maxHeartbeats 400000 in
theorem lessPath_any (a b : Option Addr) (ss tt : List ByteArray) (cap cap' B C : Nat) (w : World) (h : Strs w B a ss) (h' : Strs w C b tt) (hl : ss.length ≤ maxLen) (hl' : tt.length ≤ maxLen) :
    Calls Tryz.prog 102 #[.slice a ss.length cap, .slice b tt.length cap'] w fun e w' => e = .returned (.bool (lessL ss tt)) ∧ w' = w := by
  have hC := slicesCompare_any a b ss tt cap cap' B C w h h' hl hl'
  go_enter Tryz.func102, Tryz.ntmps102
  go_wp2_with fail
  refine hC.mono ?_
  rintro e w1 ⟨⟨z, rfl, hz⟩, hw⟩; obtain rfl := hw.symm
  have HZ := hide hz
  clear hz hC
  go_wp2
  go_ret
  exact ⟨ret_bool HZ.out, rfl⟩
end Go.Proofs.YtcgljeagjchobaaGreat
namespace Go.Proofs.YtcgljeagjchobaaGreat
open Go.RowKit M

set_option maxHeartbeats 400000 in
theorem allOf_any (s : ByteArray) (ks : List Int) (n b o cap : Nat) (w : World) (hn : ks.length = n) (hs : s.size ≤ maxLen) (hl : ks.length ≤ maxLen)
    (hc : ∀ i, i < ks.length → w.cell? ⟨b, o + i, none⟩ = some (.int .i64 (ks.getD i 0))) :
    Calls Tryz.prog 152 #[.string s, .slice (some ⟨b, o, none⟩) n cap] w fun e w' => e = .returned (.bool (allB s.data.toList ks)) ∧ w' = w := by
  subst hn
  unfold maxLen at hs
  have HC : Hid (∀ i, i < ks.length → w.cell? ⟨b, o + i, none⟩ = some (.int .i64 (ks.getD i 0))) := hc
  clear hc
  go_enter Tryz.func152, Tryz.ntmps152
  go_wp2
  go_loop [5] (fun i => ∃ k : Nat, k ≤ s.size ∧ i = .int .i64 k ∧ allB (s.data.toList.take k) ks = true) (fun i => s.size - (intOf i).toNat)
  case atStart => exact ⟨0, Nat.zero_le _, rfl, rfl⟩
  case round =>
    obtain ⟨k, hk, rfl, hn⟩ := hrel
    have HN : Hid (allB (s.data.toList.take k) ks = true) := hn; clear hn
    by_cases hlt : k < s.size
    · go_wp2_with (go_at_call 153; refine (isOneOf_any _ ks _ b o cap _ rfl hl HC.out).mono ?_; rintro e w' ⟨rfl, rfl⟩)
      · go_ret
        exact ⟨ret_bool (by rw [allB_not s ks k hlt (by assumption)]), rfl⟩
      · go_round
        case rel => exact ⟨k + 1, by omega, by go_num, allB_snoc s ks k hlt HN.out (by assumption)⟩
        case measure => simp [intOf]; omega
    · go_wp2
      go_ret
      exact ⟨ret_bool (by rw [← HN.out, take_all s k hlt]), rfl⟩
end Go.Proofs.YtcgljeagjchobaaGreat
namespace Go.Proofs.YtcgljeagjchobaaGreat
open Go.RowKit M

set_option maxHeartbeats 400000 in
theorem plain_any (s : ByteArray) (w : World) (hs : s.size ≤ maxLen) :
    Calls Tryz.prog 139 #[.string s] w fun e w' => e = .returned (.bool (allB s.data.toList [0])) ∧ Below w.heap.size w w' := by
  go_enter Tryz.func139, Tryz.ntmps139
  go_wp2_with (go_at_call 152; refine (allOf_any s [0] 1 _ 0 1 _ rfl hs (by decide) ?_).mono ?_)
  · intro i hi
    have : i = 0 := by simp at hi; omega
    subst this
    simp
  · rintro e w' ⟨rfl, rfl⟩
    go_wp2
    go_ret
    exact ⟨rfl, (Below.refl _ _).alloc (Nat.le_refl _) _⟩
end Go.Proofs.YtcgljeagjchobaaGreat
namespace Go.Proofs.YtcgljeagjchobaaGreat
open Go.RowKit M

set_option maxHeartbeats 400000 in
theorem l1Digit_any (c : UInt8) (w : World) :
    Calls Tryz.prog 138 #[.int .u8 c.toNat] w fun e w' => e = .returned (.bool (isB c.toNat 4)) ∧ w' = w := by
  go_enter Tryz.func138, Tryz.ntmps138
  go_wp2_with (go_at_call 21; refine (l1In_any _ _ _ _).mono ?_; rintro e w' ⟨rfl, rfl⟩; rw [wrap64_u8, inB_digit])
  go_ret
  exact ⟨rfl, rfl⟩
end Go.Proofs.YtcgljeagjchobaaGreat
namespace Go.Proofs.YtcgljeagjchobaaGreat
open Go.RowKit M

set_option maxHeartbeats 400000 in
theorem l1Small_any (c : UInt8) (w : World) :
    Calls Tryz.prog 137 #[.int .u8 c.toNat] w fun e w' => e = .returned (.bool (isB c.toNat 2)) ∧ w' = w := by
  go_enter Tryz.func137, Tryz.ntmps137
  go_wp2_with (go_at_call 21; refine (l1In_any _ _ _ _).mono ?_; rintro e w' ⟨rfl, rfl⟩; rw [wrap64_u8, inB_small])
  go_ret
  exact ⟨rfl, rfl⟩

set_option maxHeartbeats 1000000 in
theorem specSmallName_any (s : ByteArray) (w : World) (hs : s.size ≤ maxLen) :
    Calls Tryz.prog 121 #[.string s] w fun e w' => e = .returned (.bool (smB s.data.toList)) ∧ w' = w := by
  unfold maxLen at hs
  go_enter Tryz.func121, Tryz.ntmps121
  go_wp2
  go_loop [3] (fun i => ∃ k : Nat, k ≤ s.size ∧ i = .int .i64 k ∧ ∀ j (hj : j < s.size), j < k → okAt j (s[j].toNat : Int) = true) (fun i => s.size - (intOf i).toNat)
  case atStart => exact ⟨0, Nat.zero_le _, rfl, fun _ _ h => absurd h (Nat.not_lt_zero _)⟩
  case round =>
    obtain ⟨k, hk, rfl, hn⟩ := hrel
    have HN : Hid (∀ j (hj : j < s.size), j < k → okAt j (s[j].toNat : Int) = true) := hn; clear hn
    by_cases hlt : k < s.size
    · have hnext : okAt k (s[k].toNat : Int) = true → ∀ j (hj : j < s.size), j < k + 1 → okAt j (s[j].toNat : Int) = true := by
        intro ho j hj hjk
        by_cases e : j = k
        · subst e; exact ho
        · exact HN.out j hj (by omega)
      have HX : Hid (okAt k (s[k].toNat : Int) = true → ∀ j (hj : j < s.size), j < k + 1 → okAt j (s[j].toNat : Int) = true) := hnext
      clear hnext
      go_wp2_with (first | (go_at_call 137; refine (l1Small_any _ _).mono ?_; rintro e w' ⟨rfl, rfl⟩) | (go_at_call 138; refine (l1Digit_any _ _).mono ?_; rintro e w' ⟨rfl, rfl⟩))
      · go_round
        case rel => exact ⟨k + 1, by omega, by go_num, HX.out (ok1 (by assumption))⟩
        case measure => simp [intOf]; omega
      · go_ret
        exact ⟨ret_bool (smB_not s k hlt (no2 (by assumption) (by assumption))).symm, rfl⟩
      · go_round
        case rel => exact ⟨k + 1, by omega, by go_num, HX.out (ok3 (by assumption) (by assumption))⟩
        case measure => simp [intOf]; omega
      · go_ret
        exact ⟨ret_bool (smB_not s k hlt (no4 (by assumption) (by assumption) (by assumption) (by assumption))).symm, rfl⟩
      · go_round
        case rel => exact ⟨k + 1, by omega, by go_num, HX.out (ok5 (by assumption) (by assumption))⟩
        case measure => simp [intOf]; omega
    · go_wp2_with (go_at_call 21; refine (l1In_any _ _ _ _).mono ?_; rintro e w' ⟨rfl, rfl⟩)
      go_ret
      exact ⟨ret_bool (by rw [smB_all s (fun i hi => HN.out i hi (by omega))]), rfl⟩
end Go.Proofs.YtcgljeagjchobaaGreat
namespace Go.Proofs.YtcgljeagjchobaaGreat
open Go.RowKit M

set_option maxHeartbeats 400000 in
theorem smallName_any (s : ByteArray) (w : World) (hs : s.size ≤ maxLen) :
    Calls Tryz.prog 140 #[.string s] w fun e w' => e = .returned (.bool (smB s.data.toList)) ∧ Below w.heap.size w w' := by
  have hs' := hs
  unfold maxLen at hs'
  by_cases h0 : s.size < 1
  · have := smB_long s (.inl h0)
    have H : Hid (smB s.data.toList = false) := this
    clear this
    go_enter Tryz.func140, Tryz.ntmps140
    go_wp2
    go_ret
    exact ⟨ret_bool H.out.symm, Below.refl _ _⟩
  · by_cases h20 : 20 < s.size
    · have H : Hid (smB s.data.toList = false) := smB_long s (.inr h20)
      go_enter Tryz.func140, Tryz.ntmps140
      go_wp2
      go_ret
      exact ⟨ret_bool H.out.symm, Below.refl _ _⟩
    · have h1 : 0 < s.size := by omega
      have H : Hid (smB s.data.toList = (isB ((s[0]).toNat : Int) 2 && allB s.data.toList [2, 4, 7])) := smB_impl s h1 (by omega)
      cases hsm : isB ((s[0]).toNat : Int) 2
      · go_enter Tryz.func140, Tryz.ntmps140
        go_wp2_with (go_at_call 153; refine (isOneOf_any _ [2] 1 _ 0 1 _ rfl (by decide) (cells1 w 2 145)).mono ?_; rintro e w' ⟨rfl, rfl⟩; rw [anyB_one, hsm])
        go_ret
        exact ⟨ret_bool (by rw [H.out, hsm]; rfl), (Below.refl _ _).alloc (Nat.le_refl _) _⟩
      · go_enter Tryz.func140, Tryz.ntmps140
        go_wp2_with (first | (go_at_call 153; refine (isOneOf_any _ [2] 1 _ 0 1 _ rfl (by decide) (cells1 w 2 145)).mono ?_; rintro e w' ⟨rfl, rfl⟩; rw [anyB_one, hsm]) | (go_at_call 152; refine (allOf_any s [2, 4, 7] 3 _ 0 3 _ rfl hs (by decide) ?c1).mono ?_; rotate_left; rintro e w' ⟨rfl, rfl⟩))
        case c1 => exact cells3 _ _ 2 4 7 145 (by simp)
        go_ret
        exact ⟨ret_bool (by rw [H.out, hsm]; rfl), ((Below.refl _ _).alloc (Nat.le_refl _) _).alloc (by simp) _⟩
end Go.Proofs.YtcgljeagjchobaaGreat
namespace Go.Proofs.YtcgljeagjchobaaGreat
open Go.RowKit M
set_option linter.unusedVariables false

set_option maxHeartbeats 2000000 in
theorem propOk_any (p : Pp) (w : World) (h1 : p.1.size ≤ maxLen) (h2 : p.2.1.size ≤ maxLen) (h3 : p.2.2.size ≤ maxLen) :
    Calls Tryz.prog 126 #[.agg #[.string p.1, .string p.2.1, .string p.2.2]] w fun e w' => e = .returned (.bool (propB p)) ∧ Below w.heap.size w w' := by
  obtain ⟨x, y, z⟩ := p
  simp only at *
  have HB0 := hide (show Below w.heap.size w (w.alloc (Obj.cells #[.string x, .string y, .string z] 108)) from (Below.refl _ _).alloc (Nat.le_refl _) _)
  have HX := hide (fun W => plain_any x W h1)
  have HY := hide (fun W => smallName_any y W h2)
  have HZ := hide (fun W => plain_any z W h3)
  have HF := hide (show propB (x, y, z) = (decide (x.size ≤ 20) && (allB x.data.toList [0] && (smB y.data.toList && (decide (z.size ≤ 20) && allB z.data.toList [0])))) from rfl)
  generalize propB (x, y, z) = R at *
  generalize allB x.data.toList [0] = bx at *
  generalize smB y.data.toList = by' at *
  generalize allB z.data.toList [0] = bz at *
  cases bx
  · have hr : R = false := by rw [HF.out]; simp
    subst hr
    go_enter Tryz.func126, Tryz.ntmps126
    go_wp2_with fail
    refine (HX.out _).mono ?_
    rintro e w1 ⟨rfl, b1⟩
    have c1 := HB0.out.trans (b1.mono (by simp))
    clear b1
    go_wp2
    go_ret
    exact ⟨rfl, c1⟩
  by_cases hx : x.size ≤ 20
  · cases by'
    · have hr : R = false := by rw [HF.out]; simp
      subst hr
      go_enter Tryz.func126, Tryz.ntmps126
      go_wp2_with fail
      refine (HX.out _).mono ?_
      rintro e w1 ⟨rfl, b1⟩
      have c1 := HB0.out.trans (b1.mono (by simp))
      obtain ⟨hc, _⟩ := bcellP b1
      go_wp2_with fail
      refine (HY.out _).mono ?_
      rintro e w2 ⟨rfl, b2⟩
      have c2 := c1.trans (b2.mono c1.size)
      clear b1 b2 hc
      go_wp2
      go_ret
      exact ⟨rfl, c2⟩
    · cases bz
      · have hr : R = false := by rw [HF.out]; simp
        subst hr
        go_enter Tryz.func126, Tryz.ntmps126
        go_wp2_with fail
        refine (HX.out _).mono ?_
        rintro e w1 ⟨rfl, b1⟩
        have c1 := HB0.out.trans (b1.mono (by simp))
        obtain ⟨hc, _⟩ := bcellP b1
        go_wp2_with fail
        refine (HY.out _).mono ?_
        rintro e w2 ⟨rfl, b2⟩
        have c2 := c1.trans (b2.mono c1.size)
        obtain ⟨hc, _⟩ := bcellP (b1.trans (b2.mono b1.size))
        clear b1 b2
        go_wp2_with fail
        refine (HZ.out _).mono ?_
        rintro e w3 ⟨rfl, b3⟩
        have c3 := c2.trans (b3.mono c2.size)
        clear b3
        go_wp2
        go_ret
        exact ⟨rfl, c3⟩
      · have hr : R = decide (z.size ≤ 20) := by rw [HF.out]; simp [hx]
        subst hr
        go_enter Tryz.func126, Tryz.ntmps126
        go_wp2_with fail
        refine (HX.out _).mono ?_
        rintro e w1 ⟨rfl, b1⟩
        have c1 := HB0.out.trans (b1.mono (by simp))
        obtain ⟨hc, _⟩ := bcellP b1
        go_wp2_with fail
        refine (HY.out _).mono ?_
        rintro e w2 ⟨rfl, b2⟩
        have c2 := c1.trans (b2.mono c1.size)
        have b12 := b1.trans (b2.mono b1.size)
        obtain ⟨hc, _⟩ := bcellP b12
        clear b1 b2
        go_wp2_with fail
        refine (HZ.out _).mono ?_
        rintro e w3 ⟨rfl, b3⟩
        have c3 := c2.trans (b3.mono c2.size)
        obtain ⟨hc, _⟩ := bcellP (b12.trans (b3.mono b12.size))
        clear b3 b12
        go_wp2
        go_ret
        exact ⟨ret_bool (by simp; omega), c3⟩
  · have hr : R = false := by rw [HF.out]; simp [hx]
    subst hr
    go_enter Tryz.func126, Tryz.ntmps126
    go_wp2_with fail
    refine (HX.out _).mono ?_
    rintro e w1 ⟨rfl, b1⟩
    have c1 := HB0.out.trans (b1.mono (by simp))
    obtain ⟨hc, _⟩ := bcellP b1
    clear b1
    go_wp2
    go_ret
    exact ⟨rfl, c1⟩

set_option maxHeartbeats 400000 in
theorem cmpOr_any (g : Nat) (x y : Int) (w : World) (h0 : w.cell? ⟨g, 0, none⟩ = some (.int .i64 x)) (h1 : w.cell? ⟨g, 1, none⟩ = some (.int .i64 y)) :
    Calls Tryz.prog 141 #[.slice (some ⟨g, 0, none⟩) 2 2] w fun e w' => e = .returned (.int .i64 (orI x y)) ∧ w' = w := by
  go_enter Tryz.func141, Tryz.ntmps141
  go_wp2
  go_loop [8] (fun i => ∃ k : Nat, k ≤ 2 ∧ i = .int .i64 k ∧ (0 < k → x = 0) ∧ (1 < k → y = 0)) (fun i => 2 - (intOf i).toNat)
  case atStart => exact ⟨0, Nat.zero_le _, rfl, fun h => absurd h (by omega), fun h => absurd h (by omega)⟩
  case round =>
    obtain ⟨k, hk, rfl, hx, hy⟩ := hrel
    match k, hk with
    | 0, _ =>
      by_cases e : x = 0
      · go_wp2
        go_round
        case rel => exact ⟨1, by omega, by go_num, fun _ => e, fun h => absurd h (by omega)⟩
        case measure => simp [intOf]
      · have HO := hide (orI_yes (y := y) e)
        go_wp2
        go_ret
        exact ⟨by rw [HO.out]; rfl, rfl⟩
    | 1, _ =>
      have e0 := hx (by omega)
      have HO := hide (orI_no (y := y) e0)
      have E0 := hide e0
      clear hx hy e0
      by_cases e : y = 0
      · go_wp2
        go_round
        case rel => exact ⟨2, by omega, by go_num, fun _ => E0.out, fun _ => e⟩
        case measure => simp [intOf]
      · go_wp2
        go_ret
        exact ⟨by rw [HO.out]; rfl, rfl⟩
    | 2, _ =>
      have e0 := hx (by omega)
      have e1 := hy (by omega)
      have HO := hide ((orI_no (y := y) e0).trans e1)
      clear hx hy e0 e1
      go_wp2
      go_ret
      exact ⟨by rw [HO.out]; rfl, rfl⟩
end Go.Proofs.YtcgljeagjchobaaGreat
namespace Go.Proofs.YtcgljeagjchobaaGreat
open Go.RowKit M
set_option linter.unusedVariables false

theorem keepL {W : World} {a b c d : Addr} {x y u v : Value} (h : W.cell? a = some x ∧ W.cell? b = some y ∧ W.cell? c = some u ∧ W.cell? d = some v) (o : Obj) : (W.alloc o).cell? a = some x ∧ (W.alloc o).cell? b = some y ∧ (W.alloc o).cell? c = some u ∧ (W.alloc o).cell? d = some v := by
  rw [World.cell?_alloc_some W a o (by rw [h.1]; rfl), World.cell?_alloc_some W b o (by rw [h.2.1]; rfl), World.cell?_alloc_some W c o (by rw [h.2.2.1]; rfl), World.cell?_alloc_some W d o (by rw [h.2.2.2]; rfl)]
  exact h

theorem cell_new (W : World) (n : Nat) (cs : Array Value) (T : TypeId) (hn : n = W.heap.size) (i : Nat) (v : Value) (hi : cs[i]? = some v) : (W.alloc (.cells cs T)).drew.cell? ⟨n, i, none⟩ = some v := by
  subst hn
  show (W.alloc (.cells cs T)).cell? _ = _
  simp [hi]

set_option maxRecDepth 100000 in
set_option maxHeartbeats 4000000 in
theorem lessProp_any (p q : Pp) (w : World) :
    Calls Tryz.prog 128 #[.agg #[.string p.1, .string p.2.1, .string p.2.2], .agg #[.string q.1, .string q.2.1, .string q.2.2]] w fun e w' => e = .returned (.bool (lessP p q)) ∧ Below w.heap.size w w' := by
  have HF := hide (lessP_cmp p q)
  obtain ⟨x, y, z⟩ := p
  obtain ⟨x', y', z'⟩ := q
  simp only at *
  have HC := hide (fun W => compare_any x x' W)
  have HD := hide (fun W => compare_any y y' W)
  generalize lessP (x, y, z) (x', y', z') = R at *
  generalize cmpT x x' = c at *
  generalize cmpT y y' = d at *
  go_enter Tryz.func128, Tryz.ntmps128
  go_wp2
  refine wp_region_held_drew (S := (fun W => W.cell? ⟨w.heap.size, 0, none⟩ = some (.string x) ∧ W.cell? ⟨w.heap.size, 1, none⟩ = some (.string y) ∧ W.cell? ⟨w.heap.size + 1, 0, none⟩ = some (.string x') ∧ W.cell? ⟨w.heap.size + 1, 1, none⟩ = some (.string y'))) (by kernel_rfl) (by simp) (fun hHeld => ?_)
  simp only [List.size_toArray, List.length_cons, List.length_nil, Nat.reduceAdd, Array.replicate_succ, Array.replicate_zero, List.push_toArray, List.nil_append, List.cons_append]
  refine wpAnyH_take (i := 0) (v := ?_) rfl (by kernel_rfl) (by kernel_rfl) (by kernel_rfl) (fun _ _ _ h => h) (Or.inl ⟨by rfl, ?_⟩) (by assumption) ?_
  rotate_left
  · intro w hSw; (try dsimp only at hSw); go_simp; try with_reducible rfl
  simp only [Act.put, List.getElem_toArray, List.getElem_cons_zero, List.setIfInBounds_toArray, List.set_cons_zero]
  refine wpAnyH_take (i := 1) (v := ?_) rfl (by kernel_rfl) (by kernel_rfl) (by kernel_rfl) (fun _ _ _ h => h) (Or.inl ⟨by rfl, ?_⟩) (by assumption) ?_
  rotate_left
  · intro w hSw; (try dsimp only at hSw); go_simp; try with_reducible rfl
  simp only [Act.put, List.getElem_toArray, List.getElem_cons_succ, List.getElem_cons_zero, List.setIfInBounds_toArray, List.set_cons_succ, List.set_cons_zero]
  refine wpAnyH_take (i := 2) (v := ?_) rfl (by kernel_rfl) (by kernel_rfl) (by kernel_rfl) (fun _ _ _ h => h) (Or.inl ⟨by rfl, ?_⟩) (by assumption) ?_
  rotate_left
  · intro w hSw; (try dsimp only at hSw); go_simp; try with_reducible rfl
  simp only [Act.put, List.getElem_toArray, List.getElem_cons_succ, List.getElem_cons_zero, List.setIfInBounds_toArray, List.set_cons_succ, List.set_cons_zero]
  refine wpAnyH_take (i := 3) (v := ?_) rfl (by kernel_rfl) (by kernel_rfl) (by kernel_rfl) (fun _ _ _ h => h) (Or.inl ⟨by rfl, ?_⟩) (by assumption) ?_
  rotate_left
  · intro w hSw; (try dsimp only at hSw); go_simp; try with_reducible rfl
  simp only [Act.put, List.getElem_toArray, List.getElem_cons_succ, List.getElem_cons_zero, List.setIfInBounds_toArray, List.set_cons_succ, List.set_cons_zero]
  refine wpAnyH_take (i := 5) (v := ?_) rfl (by kernel_rfl) (by kernel_rfl) (by kernel_rfl) (fun _ _ _ h => h) (Or.inl ⟨by rfl, ?_⟩) (by assumption) ?_
  rotate_left
  · intro w hSw; (try dsimp only at hSw); go_simp; try with_reducible rfl
  simp only [Act.put, List.getElem_toArray, List.getElem_cons_succ, List.getElem_cons_zero, List.setIfInBounds_toArray, List.set_cons_succ, List.set_cons_zero]
  refine wpAnyH_take (i := 6) (v := ?_) rfl (by kernel_rfl) (by kernel_rfl) (by kernel_rfl) (fun _ _ _ h => h) (Or.inl ⟨by rfl, ?_⟩) (by assumption) ?_
  rotate_left
  · intro w hSw; (try dsimp only at hSw); go_simp; try with_reducible rfl
  simp only [Act.put, List.getElem_toArray, List.getElem_cons_succ, List.getElem_cons_zero, List.setIfInBounds_toArray, List.set_cons_succ, List.set_cons_zero]
  refine wpAnyH_take (i := 7) (v := ?_) rfl (by kernel_rfl) (by kernel_rfl) (by kernel_rfl) (fun _ _ _ h => h) (Or.inl ⟨by rfl, ?_⟩) (by assumption) ?_
  rotate_left
  · intro w hSw; (try dsimp only at hSw); go_simp; try with_reducible rfl
  simp only [Act.put, List.getElem_toArray, List.getElem_cons_succ, List.getElem_cons_zero, List.setIfInBounds_toArray, List.set_cons_succ, List.set_cons_zero]
  refine wpAnyH_take (i := 8) (v := ?_) rfl (by kernel_rfl) (by kernel_rfl) (by kernel_rfl) (fun _ _ _ h => h) (Or.inl ⟨by rfl, ?_⟩) (by assumption) ?_
  rotate_left
  · intro w hSw; (try dsimp only at hSw); go_simp; try with_reducible rfl
  simp only [Act.put, List.getElem_toArray, List.getElem_cons_succ, List.getElem_cons_zero, List.setIfInBounds_toArray, List.set_cons_succ, List.set_cons_zero]
  refine wpAnyH_ready (rs := [4]) (by kernel_rfl) (by simp) ?_
  refine AllReadyH.cons rfl (fun K hK => ?_) AllReadyH.nil
  go_simp
  refine (HC.out _).mono ?_
  rintro e w1 ⟨rfl, hw⟩
  obtain rfl := hw
  refine hK.out _ _ hHeld (fun hHeld2 => ?_)
  clear hK K hHeld
  have hHeld := hHeld2
  clear hHeld2
  simp only [List.setIfInBounds_toArray, List.set_cons_succ, List.set_cons_zero]
  refine wpAnyH_ready (rs := [9]) (by kernel_rfl) (by simp) ?_
  refine AllReadyH.cons rfl (fun K hK => ?_) AllReadyH.nil
  go_simp
  refine (HD.out _).mono ?_
  rintro e w2 ⟨rfl, hw⟩
  obtain rfl := hw
  refine hK.out _ _ hHeld (fun hHeld2 => ?_)
  clear hK K hHeld
  have hHeld := hHeld2
  clear hHeld2
  simp only [List.setIfInBounds_toArray, List.set_cons_succ, List.set_cons_zero]
  refine wpAnyH_ready (rs := [10]) (by kernel_rfl) (by simp) ?_
  refine AllReadyH.cons rfl (fun K hK => ?_) AllReadyH.nil
  go_simp
  refine hK.out _ _ (keepL hHeld _) (fun hHeld2 => ?_)
  clear hK K hHeld
  have hHeld := hHeld2
  clear hHeld2
  simp only [List.setIfInBounds_toArray, List.set_cons_succ, List.set_cons_zero]
  refine wpAnyH_ready (rs := [11]) (by kernel_rfl) (by simp) ?_
  refine AllReadyH.cons rfl (fun K hK => ?_) AllReadyH.nil
  go_simp
  refine (cmpOr_any _ c d _ (cell_new ((w.alloc _).alloc _) _ _ _ (by simp) 0 _ rfl) (cell_new ((w.alloc _).alloc _) _ _ _ (by simp) 1 _ rfl)).mono ?_
  rintro e w3 ⟨rfl, hw⟩
  obtain rfl := hw
  refine hK.out _ _ hHeld (fun hHeld2 => ?_)
  clear hK K hHeld
  have hHeld := hHeld2
  clear hHeld2
  simp only [List.setIfInBounds_toArray, List.set_cons_succ, List.set_cons_zero]
  refine wpAnyH_take (i := 12) (v := ?_) rfl (by kernel_rfl) (by kernel_rfl) (by kernel_rfl) (fun _ _ _ h => h) (Or.inl ⟨by rfl, ?_⟩) (by assumption) ?_
  rotate_left
  · intro w hSw; (try dsimp only at hSw); go_simp; try with_reducible rfl
  simp only [Act.put, List.getElem_toArray, List.getElem_cons_succ, List.getElem_cons_zero, List.setIfInBounds_toArray, List.set_cons_succ, List.set_cons_zero]
  refine wpAnyH_take (i := 13) (v := ?_) rfl (by kernel_rfl) (by kernel_rfl) (by kernel_rfl) (fun _ _ _ h => h) (Or.inl ⟨by rfl, ?_⟩) (by assumption) ?_
  rotate_left
  · intro w hSw; (try dsimp only at hSw); go_simp; try with_reducible rfl
  simp only [Act.put, List.getElem_toArray, List.getElem_cons_succ, List.getElem_cons_zero, List.setIfInBounds_toArray, List.set_cons_succ, List.set_cons_zero]
  refine wpAnyH_done (by kernel_rfl) ?_ _
  clear hHeld
  have HF2 := hide HF.out
  go_wp2
  go_ret
  refine ⟨ret_bool ?_, ?_⟩
  · exact HF2.out
  · exact below_drewP ((((Below.refl _ _).alloc (Nat.le_refl _) _).alloc (by simp) _).alloc (by simp; omega) _)
end Go.Proofs.YtcgljeagjchobaaGreat
