/-
  What slices.Concat does at lists of texts.
  What impl.DeepOf does.
  What is copied, and moved: no program in sight.
  What impl.apart and impl.farRefused do.
-/
import Derived.Test.YtepdfppbnepamabGreatAskRef
import Derived.Test.YtepdfppbnepamabGreatMathOrder
import Derived.Test.YtepdfppbnepamabGreatIsDeep
import Derived.Test.YtepdfppbnepamabGreatCopyRes
import Derived.Test.YtepdfppbnepamabGreatRowsW
import Derived.Test.YtepdfppbnepamabGreatMathMake
import Derived.Test.YtepdfppbnepamabGreatSpecProp
namespace Go.Proofs.YtepdfppbnepamabGreat
open Go.RowKit M
set_option linter.unusedVariables false

theorem info_strC : (Tryz.prog.info? 9).map (fun i => (i.zero, i.size, i.bytes)) = some (some (.string ByteArray.empty), 1, 16) := by kernel_rfl
def catL (ps : List PathV) : List ByteArray := (ps.map (·.1)).flatten
theorem catL_snoc (ps : List PathV) (k : Nat) (hk : k < ps.length) : catL (ps.take (k + 1)) = catL (ps.take k) ++ ps[k].1 := by
  unfold catL
  rw [List.take_succ_eq_append_getElem hk, List.map_append, List.flatten_append]
  simp
theorem catL_le (ps : List PathV) (k : Nat) : (catL (ps.take k)).length ≤ (catL ps).length := by
  have h : catL ps = catL (ps.take k) ++ catL (ps.drop k) := by
    unfold catL
    rw [← List.flatten_append, ← List.map_append, List.take_append_drop]
  rw [h]
  simp
def strV (ss : List ByteArray) : List Value := ss.map Value.string
theorem strV_length (ss : List ByteArray) : (strV ss).length = ss.length := by unfold strV; simp
theorem strV_one (ss : List ByteArray) : ∀ u ∈ strV ss, u.oneCell' = true := by
  intro u hu
  unfold strV at hu
  obtain ⟨s, _, rfl⟩ := List.mem_map.1 hu
  rfl
theorem strV_append (a b : List ByteArray) : strV (a ++ b) = strV a ++ strV b := by unfold strV; rw [List.map_append]

set_option maxHeartbeats 2000000 in
set_option maxRecDepth 100000 in
/-- slices.Grow of no list: room for n texts, of the call's own. -/
theorem grow_any (n : Nat) (hn : n ≤ 4194304) (w : World) :
    Calls Tryz.prog 93 #[.slice none 0 0, .int .i64 n] w fun e w' => ∃ v, e = .returned v ∧ w'.ownsRow w.heap.size 9 1 v 0 [] ∧ Below w.heap.size w w' := by
  obtain ⟨ii, hii, hz, hs, hb⟩ := info_parts info_strC
  have h0 : ¬ ((n : Int) < 0) := by omega
  by_cases hn0 : n = 0
  · subst hn0
    go_enter Tryz.func93, Tryz.ntmps93
    go_wp2
    go_ret
    exact ⟨_, rfl, ⟨rfl, .inl ⟨rfl, rfl⟩⟩, Below.refl _ _⟩
  · have hold : (Builtin.firstCells ii.size 0 (.slice none 0 0)).run Tryz.prog w.drew = .ok ([] : List Value).toArray w.drew := by
      simp [Builtin.firstCells]
    have h1 : (0 : Int) < (n : Int) := by omega
    have hw1 : IntKind.i64.wrap (n : Int) = (n : Int) := by rw [IntKind.wrap_i64]; omega
    have HOLD := hide hold
    clear hold
    go_enter Tryz.func93, Tryz.ntmps93
    go_wp2_with (at_builtin; refine wpList_appendZ rfl _ _ 23 3 9 rfl ii _ .i64 .i64 Tryz.underlying23 Tryz.underlying3 hii hz none 0 0 [] HOLD.out n (by omega) (by omega) (by omega) (by omega) (by rw [hb]; omega) (by rw [hb]; exact growslice_fits (by omega) (by omega)) rfl _ rfl rfl ?_)
    intro w1 ROW H1 hRs hRt hg1 hs1
    have hGn : n ≤ grownCap w n 0 9 := grownCap_ge w _ _ _
    have hGm := grownCap_le_maxLen w n 0 9 (by unfold maxLen; omega)
    have HRS := hide (show ROW.size = grownCap w n 0 9 * 1 by
      have h1 := hRs.out
      first | omega | (simp at h1; omega))
    clear hRs hRt
    generalize grownCap w n 0 9 = G at *
    have hG63 : G ≤ 9223372036854775807 := by unfold maxLen at hGm; omega
    have K1 := hide hg1
    have hG0 : (0 : Int) ≤ (G : Int) := by omega
    clear hg1
    go_wp2
    go_ret
    refine ⟨_, rfl, ⟨rfl, .inr ⟨w.heap.size, G, ROW, rfl, Nat.le_refl _, H1.out, Nat.zero_le _, hGm, HRS.out, by simp⟩⟩, ?_⟩
    have k1 := K1.out
    exact ⟨k1.os, k1.tape, k1.output, k1.size, fun b hb => k1.block b hb (by simp)⟩

set_option maxHeartbeats 4000000 in
set_option maxRecDepth 100000 in
theorem concat_any (g cap : Nat) (ps : List PathV) (hl : ps.length ≤ 1048576) (hsum : (catL ps).length ≤ 2097152) (w : World) (h : PathsAt w g ps) (hso : ∀ j (hj : j < ps.length), ∃ b o, ps[j].2.1 = some ⟨b, o, none⟩) :
    Calls Tryz.prog 69 #[.slice (some ⟨g, 0, none⟩) ps.length cap] w fun e w' => ∃ v, e = .returned v ∧ w'.ownsRow w.heap.size 9 1 v (catL ps).length (strV (catL ps)) ∧ Below w.heap.size w w' := by
  obtain ⟨ii, hii, hz, hs, hb⟩ := info_parts info_strC
  have HSUM := hide hsum
  clear hsum
  go_enter Tryz.func69, Tryz.ntmps69
  go_wp2
  go_loop [3, 11] (fun s i => ∃ k : Nat, k ≤ ps.length ∧ i = .int .i64 k ∧ s = .int .i64 ((catL (ps.take k)).length : Nat)) (fun _ i => ps.length - (intOf i).toNat)
  case atStart => exact ⟨0, Nat.zero_le _, rfl, by simp [catL]⟩
  case round =>
    obtain ⟨k, hk, rfl, rfl⟩ := hrel
    by_cases hlt : k < ps.length
    · have hc := h.cl k hlt
      have hle := catL_le ps (k + 1)
      have hsn := congrArg List.length (catL_snoc ps k hlt)
      rw [List.length_append] at hsn
      have hb9 : (catL (ps.take k)).length + ps[k].1.length ≤ 2097152 := by have := HSUM.out; omega
      have HE := hide (show (((catL (ps.take (k + 1))).length : Nat) : Int) = ((catL (ps.take k)).length : Nat) + (ps[k].1.length : Nat) by omega)
      generalize (catL (ps.take k)).length = m at *
      have hneg : ¬ ((m : Int) + (ps[k].1.length : Int) < 0) := by omega
      clear hle hsn
      go_wp2
      go_round
      case rel => exact ⟨k + 1, by omega, by go_num, by rw [HE.out]⟩
      case measure => simp [intOf]; omega
    · have hke : ps.take k = ps := List.take_of_length_le (by omega)
      have HKE := hide hke
      have X1 := hide (grow_any (catL ps).length (by have := HSUM.out; omega) w)
      rw [← hke] at X1
      clear hke
      go_wp2_with fail
      refine X1.out.mono ?_
      rintro e w1 ⟨v0, rfl, hown, b1⟩
      have HOW := hide hown
      have B1 := hide b1
      clear hown b1 X1
      go_wp2
      go_loopw [6, 27] (fun v i wr => ∃ k : Nat, k ≤ ps.length ∧ i = .int .i64 k ∧ wr.ownsRow w.heap.size 9 1 v (catL (ps.take k)).length (strV (catL (ps.take k))) ∧ Below w.heap.size w wr) (fun _ i _ => ps.length - (intOf i).toNat)
      case atStart => exact ⟨0, Nat.zero_le _, rfl, by simpa [catL, strV] using HOW.out, B1.out⟩
      case round =>
        obtain ⟨j, hj, rfl, hown, hbe⟩ := hrel
        have HO := hide hown
        clear hown
        by_cases hjl : j < ps.length
        · have h2 := h.below hbe
          have hc := h2.cl j hjl
          obtain ⟨hst, _, _⟩ := h2.st j hjl
          obtain ⟨pb, po, hpa⟩ := hso j hjl
          have HSN := hide (catL_snoc ps j hjl)
          have hle := catL_le ps (j + 1)
          have hsn := congrArg List.length HSN.out
          rw [List.length_append] at hsn
          have hb9 : (catL (ps.take j)).length + ps[j].1.length ≤ 2097152 := by have := HSUM.out; omega
          have hst2 : ∀ i u, (strV ps[j].1)[i]? = some u → wr.cell? ((⟨pb, po, none⟩ : Addr).add i) = some u := fun i u hi => by
            have hil : i < ps[j].1.length := by
              have := (List.getElem?_eq_some_iff.1 hi).1
              rw [strV_length] at this
              exact this
            obtain ⟨b0, o0, ea, _, hcc⟩ := hst (by omega)
            rw [hpa] at ea
            cases ea
            rw [Addr.add_lit]
            have := hcc i hil
            rw [this]
            unfold strV at hi
            rw [List.getElem?_map, List.getElem?_eq_getElem hil] at hi
            exact hi
          have HS2 := hide hst2
          rw [hpa] at hc
          generalize hm9 : (catL (ps.take j)).length = m at *
          clear h2 hst hpa hle hsn hst2
          go_wp2_with (at_builtin; refine wpList_append_own_at _ rfl _ _ 23 rfl w.heap.size 9 ii _ 1 16 Tryz.underlying23 hii hz hs hb rfl (by omega) _ m (strV (catL (ps.take j))) rfl HO.out ⟨pb, po, none⟩ ps[j].1.length ps[j].2.2 (strV ps[j].1) rfl (by rw [strV_length]; omega) HS2.out (strV_one _) (by unfold maxLen; omega) (by omega) hbe.size ?_)
          intro v' w' h3 h4 h5 h6
          have H3 := hide h3
          have H4 := hide h4
          have HOB := hide HO.out
          clear h3 h4 h5 h6
          go_wp2
          go_roundw
          case rel =>
            refine ⟨j + 1, by omega, by go_num, ?_, ?_⟩
            · rw [HSN.out, strV_append, List.length_append, hm9]
              exact H3.out
            · have g4 := H4.out
              have hlt2 := HOB.out.lt
              exact hbe.trans ⟨g4.os, g4.tape, g4.output, g4.size, fun b hb => g4.block b (by have := hbe.size; omega) (fun e => by have := (hlt2 b e.symm).1; omega)⟩
          case measure => simp [intOf]; omega
        · have hke2 : ps.take j = ps := List.take_of_length_le (by omega)
          have HK2 := hide hke2
          clear hke2
          go_wp2
          go_ret
          refine ⟨_, rfl, ?_, hbe⟩
          have := HO.out
          rw [HK2.out] at this
          exact this
end Go.Proofs.YtepdfppbnepamabGreat
namespace Go.Proofs.YtepdfppbnepamabGreat
open Go.RowKit M
set_option linter.unusedVariables false
set_option linter.unusedSimpArgs false

set_option maxRecDepth 100000 in
set_option maxHeartbeats 4000000 in
theorem deepOf_grow (a : Option Addr) (rs : List Rs) (cap B : Nat) (b : Option Addr) (p : List ByteArray) (cap' C : Nat) (w : World) (h : Rss w B a rs) (h' : Strs w C b p) (hB : B ≤ w.heap.size) (hC : C ≤ w.heap.size) (hl : rs.length ≤ 1048576) (hl' : p.length ≤ 1048576) (hs : ∀ r ∈ rs, r.pa.length ≤ 1048576 ∧ r.ps.length ≤ 1048576 ∧ (∀ s ∈ r.pa, s.size ≤ 281474976710656) ∧ r.bo.size ≤ 281474976710656 ∧ ∀ p ∈ r.ps, p.1.size ≤ 281474976710656 ∧ p.2.1.size ≤ 281474976710656 ∧ p.2.2.size ≤ 281474976710656) :
    Calls Tryz.prog 68 #[.slice a rs.length cap, .slice b p.length cap'] w fun e w' => (∃ (v : Value) (ts : List RsT), e = .returned v ∧ GrowR w' w.heap.size v ts w'.heap.size ∧ ts.map (·.r) = deepL rs p ∧ (∀ j (hj : j < ts.length), ts[j].pc = ts[j].r.pa.length ∧ ts[j].qc = ts[j].r.ps.length)) ∧ Below w.heap.size w w' := by
  have HS := hide hs
  have hpm : p.length ≤ maxLen := by unfold maxLen; omega
  clear hs
  go_enter Tryz.func68, Tryz.ntmps68
  go_wp2
  go_loopw [5, 11] (fun v i wr => ∃ (k lo : Nat) (ts : List RsT), k ≤ rs.length ∧ i = .int .i64 k ∧ GrowR wr w.heap.size v ts lo ∧ w.heap.size ≤ lo ∧ ts.map (·.r) = (rs.take k).filter (deepB p) ∧ (∀ j (hj : j < ts.length), ts[j].pc = ts[j].r.pa.length ∧ ts[j].qc = ts[j].r.ps.length) ∧ Below w.heap.size w wr) (fun _ i _ => rs.length - (intOf i).toNat)
  case atStart => exact ⟨0, w.heap.size + 1, [], Nat.zero_le _, rfl, GrowR.made w w.heap.size (Nat.le_refl _), by omega, rfl, fun j hj => absurd hj (Nat.not_lt_zero _), (Below.refl _ _).alloc (Nat.le_refl _) _⟩
  case round =>
    obtain ⟨k, lo, ts, hk, rfl, hG, hlo, hts, hcc, hbe⟩ := hrel
    have HG := hide hG
    have HTS := hide hts
    have HCC := hide hcc
    clear hG hts hcc
    by_cases hlt : k < rs.length
    · obtain ⟨b1, o1, rfl, hb1, hcc⟩ := (h.below hbe hB) (by omega)
      obtain ⟨pa, pc, qa, qc, ⟨hc0, hc1, hc2, hc3, hc4⟩, hin⟩ := hcc k hlt
      clear hcc
      have hsk := HS.out _ (List.getElem_mem hlt)
      have HBA := hide ((Below.refl wr.heap.size wr).alloc (Nat.le_refl _) (Obj.cells #[.slice pa (rs[k]).pa.length pc, .bool (rs[k]).co, .string (rs[k]).bo, .int .i64 (rs[k]).ve, .slice qa (rs[k]).ps.length qc] 49))
      have hin2 := hin.below HBA.out (Nat.le_trans hB hbe.size)
      have hp2 := (h'.below hbe hC).below HBA.out (Nat.le_trans hC hbe.size)
      have hkm : (rs[k]).pa.length ≤ maxLen := Nat.le_trans hin2.pl hin2.pm
      have HQ1 := hide (isDeep_any pa b rs[k].pa p pc cap' B C _ hin2.ph hp2 hkm hpm hin2.pl hin2.pm)
      have HI := hide hin2
      have HSK := hide hsk
      have HD := hide (show deepB p rs[k] = deepP rs[k].pa p from rfl)
      generalize deepP rs[k].pa p = z1 at *
      clear hin hin2 hsk hp2 hkm
      -- the one that is not taken
      have no : z1 = false → Hid ((rs.take (k + 1)).filter (deepB p) = (rs.take k).filter (deepB p)) := fun e1 => filter_no (q := (deepB p)) hlt (by simp only [HD.out, e1, Bool.not_true, Bool.not_false])
      have yes : z1 = true → Hid ((rs.take (k + 1)).filter (deepB p) = (rs.take k).filter (deepB p) ++ [rs[k]]) := fun e1 => filter_yes (q := (deepB p)) hlt (by simp only [HD.out, e1, Bool.not_true, Bool.not_false])
      have NO := hide no
      have YES := hide yes
      have HL := hide (show ts.length ≤ rs.length by
        have e1 : ts.length = ((rs.take k).filter (deepB p)).length := by have := congrArg List.length HTS.out; simpa using this
        rw [e1]; exact filter_len rs k)
      clear no yes HD
      by_cases ez : z1 = false
      · subst ez
        have HF := NO.out rfl
        clear NO YES HSK
        go_wp2_with fail
        refine HQ1.out.mono ?_
        rintro e w1 ⟨rfl, hb3⟩
        have b4 := HBA.out.trans (hb3 _)
        have c1 := hbe.trans (b4.mono hbe.size)
        have HG2 := hide (HG.out.next b4)
        clear hb3 b4 HQ1
        go_wp2
        go_roundw
        case rel => exact ⟨k + 1, lo, ts, by omega, by go_num, HG2.out, hlo, by rw [HF.out]; exact HTS.out, HCC.out, c1⟩
        case measure => simp [intOf]; omega
      · obtain rfl : z1 = true := by cases z1 <;> simp at ez ⊢
        clear ez
        have HF := YES.out rfl
        clear NO YES
        go_wp2_with fail
        refine HQ1.out.mono ?_
        rintro e w2 ⟨rfl, hall⟩
        have b4 := HBA.out.trans (hall _)
        have HI2 := hide (HI.out.below (hall B) (Nat.le_refl _))
        clear HQ1
        have hc5 : ∀ o v, (wr.alloc (Obj.cells #[.slice pa (rs[k]).pa.length pc, .bool (rs[k]).co, .string (rs[k]).bo, .int .i64 (rs[k]).ve, .slice qa (rs[k]).ps.length qc] 49)).cell? ⟨wr.heap.size, o, none⟩ = some v → w2.cell? ⟨wr.heap.size, o, none⟩ = some v := fun o v hv => ((hall (wr.heap.size + 1)).cell (p := ⟨wr.heap.size, o, none⟩) (Nat.lt_succ_self _)).trans hv
        have d0 := hc5 0 (.slice pa (rs[k]).pa.length pc) (by simp)
        have d1 := hc5 1 (.bool (rs[k]).co) (by simp)
        have d2 := hc5 2 (.string (rs[k]).bo) (by simp)
        have d3 := hc5 3 (.int .i64 (rs[k]).ve) (by simp)
        have d4 := hc5 4 (.slice qa (rs[k]).ps.length qc) (by simp)
        have c1 := hbe.trans (b4.mono hbe.size)
        have HG2 := hide (HG.out.next b4)
        have hlo2 : lo ≤ w2.heap.size := Nat.le_trans HG.out.top b4.size
        have HCp := hide (copyRes_any rs[k] pa pc qa qc B w2 HI2.out (Nat.le_trans hB c1.size) HSK.out.1 HSK.out.2.1 HSK.out.2.2.1 HSK.out.2.2.2.1 HSK.out.2.2.2.2)
        have hlen := HL.out
        have hk1 := HSK.out.1
        have hk2 := HSK.out.2.1
        clear hc5 hall b4 HI2
        go_wp2_with fail
        refine HCp.out.mono ?_
        rintro e w3 ⟨⟨pp, qq, rfl, hpp, hpq, r3, q3⟩, b5⟩
        have c3 := c1.trans (b5.mono c1.size)
        have bA := (Below.refl w3.heap.size w3).alloc (Nat.le_refl _) (Obj.cells #[.slice (some ⟨pp, 0, none⟩) (rs[k]).pa.length (rs[k]).pa.length, .bool (rs[k]).co, .string (rs[k]).bo, .int .i64 (rs[k]).ve, .slice (some ⟨qq, 0, none⟩) (rs[k]).ps.length (rs[k]).ps.length] 49)
        have HG4 := hide ((HG2.out.next b5).next bA)
        have HR := hide (r3.below bA)
        have HQ := hide (q3.below bA)
        have HC4 := hide (c3.trans (bA.mono c3.size))
        clear r3 q3 b5 bA c1 c3 d0 d1 d2 d3 d4 HCp
        go_wp2_with (at_builtin; refine wp_append_res rfl _ _ rfl w.heap.size lo _ ts rfl HG4.out w3.heap.size ⟨rs[k], pp, (rs[k]).pa.length, qq, (rs[k]).ps.length⟩ rfl ?_ ?_ hlo (Nat.le_trans hlo2 hpp) hpq HR.out HQ.out ?_ ?_)
        · exact ⟨by simp, by simp, by simp, by simp, by simp⟩
        · omega
        · exact ⟨by unfold maxLen; omega, by unfold maxLen; omega⟩
        · intro v' w' hG' hB'
          have HG' := hide hG'
          have HC' := hide (HC4.out.trans hB')
          clear hG' hB'
          go_wp2
          go_roundw
          case rel => exact ⟨k + 1, _, _, by omega, by go_num, HG'.out, HC'.out.size, by rw [HF.out, List.map_append, HTS.out]; rfl, caps_snoc HCC.out, HC'.out⟩
          case measure => simp [intOf]; omega
    · have HF := hide (filter_end (q := (deepB p)) hlt)
      have HM := hide (show ts.map (·.r) = deepL rs p by rw [HTS.out, HF.out]; rfl)
      have HG3 := hide (HG.out.up HG.out.top (Nat.le_refl _))
      clear HTS HF
      go_wp2
      go_ret
      exact ⟨⟨_, ts, rfl, HG3.out, HM.out, HCC.out⟩, hbe⟩
end Go.Proofs.YtepdfppbnepamabGreat
namespace Go.Proofs.YtepdfppbnepamabGreat
open M

/-- A thing as it is at another path. -/
def carryR (fr to : List ByteArray) (v : Int) (r : Rs) : Rs := ⟨to ++ r.pa.drop fr.length, r.co, r.bo, v, r.ps⟩
def carryL (rs : List Rs) (fr to : List ByteArray) (v : Int) : List Rs := (deepL rs fr).map (carryR fr to v)
/-- Whether neither is the other, nor under it. -/
def apartB (fr to : List ByteArray) : Bool := !deepP fr to && !deepP to fr
/-- What stays. -/
def restL (rs : List Rs) (fr to : List ByteArray) (mv : Bool) : List Rs := if mv = true then withoutL (withoutL rs to) fr else withoutL rs to
/-- What both say of a copy, ahead of the looks at what comes. -/
def far1 (rs : List Rs) (fr to : List ByteArray) (ov : Bool) (v : Int) : Int := if askI rs v (pathB fr && pathB to) ≠ 0 then askI rs v (pathB fr && pathB to) else if thereB rs fr = false then 404 else if apartB fr to = false then 403 else if (thereB rs to && !ov) = true then 412 else 0
/-- Whether a path would be too long. -/
def tooLong (rs : List Rs) (fr to : List ByteArray) : Bool := (deepL rs fr).any fun r => decide (4 < r.pa.length - fr.length + to.length)
def farI (rs : List Rs) (fr to : List ByteArray) (ov : Bool) (v : Int) (mv : Bool) : Int := if far1 rs fr to ov v ≠ 0 then far1 rs fr to ov v else if collB rs (aboveL to) = false then 409 else if tooLong rs fr to = true then 409 else if 12 < (restL rs fr to mv).length + (deepL rs fr).length then 507 else 0
def farR (rs : List Rs) (fr to : List ByteArray) (ov : Bool) (v : Int) (mv : Bool) : List Rs := if farI rs fr to ov v mv = 0 then wholeL (restL rs fr to mv) to (carryL rs fr to v) else rs
def farC (rs : List Rs) (fr to : List ByteArray) (ov : Bool) (v : Int) (mv : Bool) : Int := takenC (farI rs fr to ov v mv) (thereB rs to)

theorem far1_ok {rs : List Rs} {fr to : List ByteArray} {ov : Bool} {v : Int} (h : far1 rs fr to ov v = 0) : treeB rs = true ∧ pathB fr = true ∧ pathB to = true ∧ inB v 0 99999 = true ∧ thereB rs fr = true ∧ apartB fr to = true := by
  unfold far1 at h
  by_cases h1 : askI rs v (pathB fr && pathB to) = 0
  · rw [if_neg (by simp [h1])] at h
    unfold askI at h1
    cases e1 : treeB rs
    · rw [e1, if_pos rfl] at h1; cases h1
    · rw [e1, if_neg (by simp)] at h1
      cases e2 : (pathB fr && pathB to)
      · rw [e2, if_pos rfl] at h1; cases h1
      · rw [e2, if_neg (by simp)] at h1
        rw [Bool.and_eq_true] at e2
        cases e3 : inB v 0 99999
        · rw [e3, if_pos rfl] at h1; cases h1
        · cases e4 : thereB rs fr
          · rw [e4, if_pos rfl] at h; cases h
          · rw [e4, if_neg (by simp)] at h
            cases e5 : apartB fr to
            · rw [e5, if_pos rfl] at h; cases h
            · exact ⟨rfl, e2.1, e2.2, rfl, rfl, rfl⟩
  · rw [if_pos h1] at h; exact absurd h h1
theorem deepL_mem {rs : List Rs} {p : List ByteArray} {r : Rs} : r ∈ deepL rs p ↔ r ∈ rs ∧ deepB p r = true := List.mem_filter
theorem deepB_P (p : List ByteArray) (r : Rs) : deepB p r = deepP r.pa p := rfl

theorem pathB_iff {p : List ByteArray} : pathB p = true ↔ (∀ s ∈ p, nameB s = true) ∧ p.length ≤ 4 := by
  unfold pathB
  rw [Bool.and_eq_true, decide_eq_true_eq, List.all_eq_true]
theorem any_same {p q : Rs → Bool} : ∀ {l : List Rs}, (∀ r ∈ l, p r = q r) → l.any p = l.any q
  | [], _ => rfl
  | x :: l, h => by rw [List.any_cons, List.any_cons, h x (List.mem_cons_self ..), any_same (fun r hr => h r (List.mem_cons_of_mem _ hr))]
/-- Of right things a carried path is one unless it is too long. -/
theorem carry_bad {rs : List Rs} {fr to : List ByteArray} {v : Int} (ht : treeB rs = true) (hto : pathB to = true) : (carryL rs fr to v).any badP = tooLong rs fr to := by
  unfold carryL tooLong
  rw [List.any_map]
  refine any_same ?_
  intro r hr
  obtain ⟨hm, hd⟩ := deepL_mem.1 hr
  have hpl := (deep_iff.1 hd).length_le
  unfold treeB at ht
  simp only [Bool.and_eq_true, decide_eq_true_eq, List.all_eq_true] at ht
  have hr1 := pathB_iff.1 (resB_path (ht.2.1 r hm))
  have ht1 := pathB_iff.1 hto
  show (!pathB (to ++ r.pa.drop fr.length)) = _
  have hlen : (to ++ r.pa.drop fr.length).length = r.pa.length - fr.length + to.length := by simp; omega
  by_cases h4 : 4 < r.pa.length - fr.length + to.length
  · rw [decide_eq_true h4]
    have : pathB (to ++ r.pa.drop fr.length) = false := by
      cases e : pathB (to ++ r.pa.drop fr.length)
      · rfl
      · have := (pathB_iff.1 e).2
        omega
    rw [this]; rfl
  · rw [decide_eq_false h4]
    have : pathB (to ++ r.pa.drop fr.length) = true := pathB_iff.2 ⟨fun s hs => by
      rcases List.mem_append.1 hs with h | h
      · exact ht1.1 s h
      · exact hr1.1 s (List.mem_of_mem_drop h), by omega⟩
    rw [this]; rfl
theorem carry_long {rs : List Rs} {fr to : List ByteArray} {v : Int} (ht : treeB rs = true) : (carryL rs fr to v).any longP = false := by
  rw [List.any_eq_false]
  intro x hx
  unfold carryL at hx
  obtain ⟨r, hr, rfl⟩ := List.mem_map.1 hx
  have hm := (deepL_mem.1 hr).1
  unfold treeB at ht
  simp only [Bool.and_eq_true, decide_eq_true_eq, List.all_eq_true] at ht
  have := ht.2.1 r hm
  unfold resB at this
  simp only [Bool.and_eq_true, decide_eq_true_eq] at this
  show ¬ (decide (200 < r.bo.size)) = true
  have := this.2.2.1
  simp
  omega
/-- What the program's looks say. -/
theorem far_says {rs : List Rs} {fr to : List ByteArray} {ov : Bool} {v : Int} {mv : Bool} (h : far1 rs fr to ov v = 0) : ref2 rs to (restL rs fr to mv) (carryL rs fr to v) = farI rs fr to ov v mv := by
  obtain ⟨ht, _, hto, _⟩ := far1_ok h
  unfold ref2 ref3 ref4 farI
  rw [carry_bad ht hto, carry_long ht, if_neg (c := far1 rs fr to ov v ≠ 0) (by simp [h])]
  have e : (carryL rs fr to v).length = (deepL rs fr).length := by unfold carryL; simp
  rw [e]
  simp
theorem far_refused {rs : List Rs} {fr to : List ByteArray} {ov : Bool} {v : Int} {mv : Bool} (h : ¬ far1 rs fr to ov v = 0) : farR rs fr to ov v mv = rs ∧ farC rs fr to ov v mv = far1 rs fr to ov v := by
  have e : farI rs fr to ov v mv = far1 rs fr to ov v := by unfold farI; rw [if_pos h]
  unfold farR farC takenC
  rw [e, if_neg h, if_neg h]
  exact ⟨rfl, rfl⟩
theorem far_answers {rs : List Rs} {fr to : List ByteArray} {ov : Bool} {v : Int} {mv : Bool} : takenL (farI rs fr to ov v mv) rs to (restL rs fr to mv) (carryL rs fr to v) = farR rs fr to ov v mv := rfl

/-- The specification puts them one by one. -/
theorem carry_asc {rs : List Rs} {fr to : List ByteArray} {v : Int} (h : Asc rs) : Asc (carryL rs fr to v) := by
  unfold carryL Asc
  rw [List.pairwise_map]
  refine List.Pairwise.imp_of_mem (R := fun a b => lessL a.pa b.pa = true) ?_ (show List.Pairwise (fun a b : Rs => lessL a.pa b.pa = true) (deepL rs fr) from List.Pairwise.filter _ h)
  intro a b ha hb hl
  have ha' := deep_iff.1 (List.mem_filter.1 ha).2
  have hb' := deep_iff.1 (List.mem_filter.1 hb).2
  obtain ⟨x, hx⟩ := ha'
  obtain ⟨y, hy⟩ := hb'
  show lessL (to ++ a.pa.drop fr.length) (to ++ b.pa.drop fr.length) = true
  rw [← hx, ← hy] at hl ⊢
  rw [List.drop_left, List.drop_left]
  have cancel : ∀ (p : List ByteArray), lessL (p ++ x) (p ++ y) = lessL x y := by
    intro p
    induction p with
    | nil => rfl
    | cons s p ih => rw [List.cons_append, List.cons_append, lessL, if_pos rfl, ih]
  rw [cancel] at hl ⊢
  exact hl
theorem rest_asc {rs : List Rs} {fr to : List ByteArray} {mv : Bool} (h : Asc rs) : Asc (restL rs fr to mv) := by
  unfold restL
  split
  · exact without_asc (without_asc h _) _
  · exact without_asc h _
theorem rest_not {rs : List Rs} {fr to : List ByteArray} {mv : Bool} : ∀ y ∈ restL rs fr to mv, deepB to y = false := fun y hy => by
  unfold restL at hy
  split at hy
  · exact without_not to y (List.mem_filter.1 hy).1
  · exact without_not to y hy
theorem far_fold {rs : List Rs} {fr to : List ByteArray} {v : Int} {mv : Bool} (h : Asc rs) : (carryL rs fr to v).foldl (fun acc c => putR c false acc) (restL rs fr to mv) = wholeL (restL rs fr to mv) to (carryL rs fr to v) :=
  whole_fold (rest_asc h) rest_not (fun c hc => by
    unfold carryL at hc
    obtain ⟨r, _, rfl⟩ := List.mem_map.1 hc
    exact deep_iff.2 ⟨_, rfl⟩) (carry_asc h)
theorem restL_len (rs : List Rs) (fr to : List ByteArray) (mv : Bool) : (restL rs fr to mv).length ≤ rs.length := by
  unfold restL
  split
  · exact Nat.le_trans (List.length_filter_le _ _) (List.length_filter_le _ _)
  · exact List.length_filter_le _ _
end Go.Proofs.YtepdfppbnepamabGreat
namespace Go.Proofs.YtepdfppbnepamabGreat
open Go.RowKit M
set_option linter.unusedVariables false

set_option maxHeartbeats 1000000 in
theorem apart_any (a b : Option Addr) (ss tt : List ByteArray) (cap cap' B C : Nat) (w : World) (h : Strs w B a ss) (h' : Strs w C b tt) (hl : ss.length ≤ maxLen) (hl' : tt.length ≤ maxLen) (hc : ss.length ≤ cap) (hm : cap ≤ maxLen) (hc' : tt.length ≤ cap') (hm' : cap' ≤ maxLen) :
    Calls Tryz.prog 67 #[.slice a ss.length cap, .slice b tt.length cap'] w fun e w' => e = .returned (.bool (apartB ss tt)) ∧ ∀ D, Below D w w' := by
  have HQ1 := hide (isDeep_any a b ss tt cap cap' B C w h h' hl hl' hc hm)
  have HQ2 := hide (fun W (x : Strs W B a ss) (y : Strs W C b tt) => isDeep_any b a tt ss cap' cap C B W y x hl' hl hc' hm')
  have HD := hide (show apartB ss tt = (!deepP ss tt && !deepP tt ss) from rfl)
  generalize apartB ss tt = z at *
  generalize deepP ss tt = z1 at *
  generalize deepP tt ss = z2 at *
  cases z1
  · have HZ := hide (HD.out.trans (Bool.true_and (!z2)))
    clear HD
    go_enter Tryz.func67, Tryz.ntmps67
    go_wp2_with fail
    refine HQ1.out.mono ?_
    rintro e w1 ⟨rfl, hb1⟩
    have X1 := hide (HQ2.out w1 (h.below (hb1 B) (Nat.le_refl _)) (h'.below (hb1 C) (Nat.le_refl _)))
    clear HQ1 HQ2
    go_wp2_with fail
    refine X1.out.mono ?_
    rintro e w2 ⟨rfl, hb2⟩
    clear X1
    go_wp2
    go_ret
    exact ⟨by rw [HZ.out]; rfl, fun D => (hb1 D).trans (hb2 D)⟩
  · have HZ := hide (HD.out.trans (Bool.false_and (!z2)))
    clear HD
    go_enter Tryz.func67, Tryz.ntmps67
    go_wp2_with fail
    refine HQ1.out.mono ?_
    rintro e w1 ⟨rfl, hb1⟩
    go_wp2
    go_ret
    exact ⟨by rw [HZ.out]; rfl, hb1⟩

theorem PathsAt.two {w : World} {a b : Option Addr} {p q : List ByteArray} {cap cap' C D : Nat} (h : Strs w C a p) (hC : C ≤ w.heap.size) (hs : Short p) (hl : p.length ≤ maxLen) (h' : Strs w D b q) (hD : D ≤ w.heap.size) (hs' : Short q) (hl' : q.length ≤ maxLen) : PathsAt (w.alloc (Obj.cells #[.slice a p.length cap, .slice b q.length cap'] 23)) w.heap.size [(p, a, cap), (q, b, cap')] := by
  have hb := (Below.refl w.heap.size w).alloc (Nat.le_refl _) (Obj.cells #[.slice a p.length cap, .slice b q.length cap'] 23)
  refine ⟨by simp, fun j hj => ?_, fun j hj => ?_⟩
  · have hj' : j = 0 ∨ j = 1 := by simp at hj; omega
    rcases hj' with rfl | rfl
    · simp
    · simp
  · have hj' : j = 0 ∨ j = 1 := by simp at hj; omega
    rcases hj' with rfl | rfl
    · exact ⟨(h.below hb hC).mono (by simp; omega), hs, hl⟩
    · exact ⟨(h'.below hb hD).mono (by simp; omega), hs', hl'⟩
theorem pathsB_two (p q : List ByteArray) (a b : Option Addr) (c d : Nat) : pathsB [(p, a, c), (q, b, d)] = (pathB p && pathB q) := by
  unfold pathsB
  simp

set_option maxHeartbeats 2000000 in
theorem farRefused_any (a : Option Addr) (rs : List Rs) (cap B : Nat) (b1 : Option Addr) (fr : List ByteArray) (cap1 : Nat) (b2 : Option Addr) (to : List ByteArray) (cap2 : Nat) (ov : Bool) (v : Int) (w : World) (h : Rss w B a rs) (h1 : Strs w B b1 fr) (h2 : Strs w B b2 to) (hB : B ≤ w.heap.size) (hs : ShortT rs) (hl : rs.length ≤ maxLen) (hs1 : Short fr) (hl1 : fr.length ≤ maxLen) (hs2 : Short to) (hl2 : to.length ≤ maxLen) (hc1 : fr.length ≤ cap1) (hm1 : cap1 ≤ maxLen) (hc2 : to.length ≤ cap2) (hm2 : cap2 ≤ maxLen) :
    Calls Tryz.prog 43 #[.slice a rs.length cap, .slice b1 fr.length cap1, .slice b2 to.length cap2, .bool ov, .int .i64 v] w fun e w' => e = .returned (.int .i64 (far1 rs fr to ov v)) ∧ Below w.heap.size w w' := by
  have hb0 := (Below.refl w.heap.size w).alloc (Nat.le_refl _) (Obj.cells #[.slice b1 fr.length cap1, .slice b2 to.length cap2] 23)
  have hA := askRefused_any a rs cap B v w.heap.size 2 [(fr, b1, cap1), (to, b2, cap2)] (by simp) (w.alloc (Obj.cells #[.slice b1 fr.length cap1, .slice b2 to.length cap2] 23)) (h.below hb0 hB) (by simp; omega) hs hl (PathsAt.two h1 hB hs1 hl1 h2 hB hs2 hl2)
  rw [pathsB_two] at hA
  have HA := hide hA
  have HB0 := hide hb0
  have HT1 := hide (fun W (hb : Below w.heap.size w W) => isThere_any a rs cap B b1 fr cap1 B W (h.below hb hB) (h1.below hb hB) hl hl1 (Nat.le_trans hB hb.size) (Nat.le_trans hB hb.size))
  have HT2 := hide (fun W (hb : Below w.heap.size w W) => isThere_any a rs cap B b2 to cap2 B W (h.below hb hB) (h2.below hb hB) hl hl2 (Nat.le_trans hB hb.size) (Nat.le_trans hB hb.size))
  have HAP := hide (fun W (hb : Below w.heap.size w W) => apart_any b1 b2 fr to cap1 cap2 B B W (h1.below hb hB) (h2.below hb hB) hl1 hl2 hc1 hm1 hc2 hm2)
  have HE := hide (show far1 rs fr to ov v = if askI rs v (pathB fr && pathB to) ≠ 0 then askI rs v (pathB fr && pathB to) else if thereB rs fr = false then 404 else if apartB fr to = false then 403 else if (thereB rs to && !ov) = true then 412 else 0 from rfl)
  generalize far1 rs fr to ov v = E at *
  generalize askI rs v (pathB fr && pathB to) = m at *
  generalize thereB rs fr = z1 at *
  generalize apartB fr to = z2 at *
  generalize thereB rs to = z3 at *
  clear hA hb0 h h1 h2
  by_cases hm : m = 0
  rotate_left
  · have e0 : (m == 0) = false := by rw [beq_eq_false_iff_ne]; exact hm
    have HE' := hide (show E = m from HE.out.trans (if_pos hm))
    clear HE
    go_enter Tryz.func43, Tryz.ntmps43
    go_wp2_with fail
    refine HA.out.mono ?_
    rintro e w1 ⟨rfl, b1'⟩
    have c1 := HB0.out.trans (b1'.mono HB0.out.size)
    clear HA b1'
    go_wp2
    go_ret
    exact ⟨by rw [HE'.out]; rfl, c1⟩
  subst hm
  have HE0 := hide (HE.out.trans (if_neg (by simp)))
  clear HE
  have HE := HE0
  clear HE0
  cases z1
  · skip
    have HE' := hide (show E = 404 from HE.out.trans (if_pos rfl))
    clear HE
    go_enter Tryz.func43, Tryz.ntmps43
    go_wp2_with fail
    refine HA.out.mono ?_
    rintro e w1 ⟨rfl, b1'⟩
    have c1 := HB0.out.trans (b1'.mono HB0.out.size)
    clear HA b1'
    have X1 := hide (HT1.out w1 c1)
    go_wp2_with fail
    refine X1.out.mono ?_
    rintro e w2 ⟨rfl, b'⟩
    have c2 := c1.trans (b'.mono c1.size)
    clear X1 b'
    go_wp2
    go_ret
    exact ⟨by rw [HE'.out]; rfl, c2⟩
  have HE1 := hide (HE.out.trans (if_neg (by simp)))
  clear HE
  have HE := HE1
  clear HE1
  cases z2
  · skip
    have HE' := hide (show E = 403 from HE.out.trans (if_pos rfl))
    clear HE
    go_enter Tryz.func43, Tryz.ntmps43
    go_wp2_with fail
    refine HA.out.mono ?_
    rintro e w1 ⟨rfl, b1'⟩
    have c1 := HB0.out.trans (b1'.mono HB0.out.size)
    clear HA b1'
    have X1 := hide (HT1.out w1 c1)
    go_wp2_with fail
    refine X1.out.mono ?_
    rintro e w2 ⟨rfl, b'⟩
    have c2 := c1.trans (b'.mono c1.size)
    clear X1 b'
    have X2 := hide (HAP.out w2 c2)
    go_wp2_with fail
    refine X2.out.mono ?_
    rintro e w3 ⟨rfl, b'⟩
    have c3 := c2.trans (b' _)
    clear X2 b'
    go_wp2
    go_ret
    exact ⟨by rw [HE'.out]; rfl, c3⟩
  have HE2 := hide (HE.out.trans (if_neg (by simp)))
  clear HE
  have HE := HE2
  clear HE2
  cases z3
  · skip
    have HE' := hide (show E = 0 from HE.out.trans (if_neg (by simp)))
    clear HE
    go_enter Tryz.func43, Tryz.ntmps43
    go_wp2_with fail
    refine HA.out.mono ?_
    rintro e w1 ⟨rfl, b1'⟩
    have c1 := HB0.out.trans (b1'.mono HB0.out.size)
    clear HA b1'
    have X1 := hide (HT1.out w1 c1)
    go_wp2_with fail
    refine X1.out.mono ?_
    rintro e w2 ⟨rfl, b'⟩
    have c2 := c1.trans (b'.mono c1.size)
    clear X1 b'
    have X2 := hide (HAP.out w2 c2)
    go_wp2_with fail
    refine X2.out.mono ?_
    rintro e w3 ⟨rfl, b'⟩
    have c3 := c2.trans (b' _)
    clear X2 b'
    have X3 := hide (HT2.out w3 c3)
    go_wp2_with fail
    refine X3.out.mono ?_
    rintro e w4 ⟨rfl, b'⟩
    have c4 := c3.trans (b'.mono c3.size)
    clear X3 b'
    go_wp2
    go_ret
    exact ⟨by rw [HE'.out]; rfl, c4⟩
  cases ov
  · skip
    have HE' := hide (show E = 412 from HE.out.trans (if_pos rfl))
    clear HE
    go_enter Tryz.func43, Tryz.ntmps43
    go_wp2_with fail
    refine HA.out.mono ?_
    rintro e w1 ⟨rfl, b1'⟩
    have c1 := HB0.out.trans (b1'.mono HB0.out.size)
    clear HA b1'
    have X1 := hide (HT1.out w1 c1)
    go_wp2_with fail
    refine X1.out.mono ?_
    rintro e w2 ⟨rfl, b'⟩
    have c2 := c1.trans (b'.mono c1.size)
    clear X1 b'
    have X2 := hide (HAP.out w2 c2)
    go_wp2_with fail
    refine X2.out.mono ?_
    rintro e w3 ⟨rfl, b'⟩
    have c3 := c2.trans (b' _)
    clear X2 b'
    have X3 := hide (HT2.out w3 c3)
    go_wp2_with fail
    refine X3.out.mono ?_
    rintro e w4 ⟨rfl, b'⟩
    have c4 := c3.trans (b'.mono c3.size)
    clear X3 b'
    go_wp2
    go_ret
    exact ⟨by rw [HE'.out]; rfl, c4⟩
  · skip
    have HE' := hide (show E = 0 from HE.out.trans (if_neg (by simp)))
    clear HE
    go_enter Tryz.func43, Tryz.ntmps43
    go_wp2_with fail
    refine HA.out.mono ?_
    rintro e w1 ⟨rfl, b1'⟩
    have c1 := HB0.out.trans (b1'.mono HB0.out.size)
    clear HA b1'
    have X1 := hide (HT1.out w1 c1)
    go_wp2_with fail
    refine X1.out.mono ?_
    rintro e w2 ⟨rfl, b'⟩
    have c2 := c1.trans (b'.mono c1.size)
    clear X1 b'
    have X2 := hide (HAP.out w2 c2)
    go_wp2_with fail
    refine X2.out.mono ?_
    rintro e w3 ⟨rfl, b'⟩
    have c3 := c2.trans (b' _)
    clear X2 b'
    have X3 := hide (HT2.out w3 c3)
    go_wp2_with fail
    refine X3.out.mono ?_
    rintro e w4 ⟨rfl, b'⟩
    have c4 := c3.trans (b'.mono c3.size)
    clear X3 b'
    go_wp2
    go_ret
    exact ⟨by rw [HE'.out]; rfl, c4⟩
end Go.Proofs.YtepdfppbnepamabGreat
