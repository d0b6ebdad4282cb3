/-
  What impl.isKid and impl.KidsOf do.
-/
import Derived.Test.YtafdbnadakclnaaSameTexts
import Derived.Test.YtafdbnadakclnaaMathRemoved
import Derived.Test.YtafdbnadakclnaaPlain
import Derived.Test.YtafdbnadakclnaaRowsSS
namespace Go.Proofs.Ytafdbnadakclnaa
open Go.RowKit M
set_option linter.unusedVariables false

set_option maxHeartbeats 1000000 in
theorem isKid_any (r : Rs) (a b : Option Addr) (p : List ByteArray) (cap cap' B C : Nat) (w : World) (h : Strs w B a r.pa) (h' : Strs w C b p) (hl : r.pa.length ≤ 1099511627776) (hl' : p.length ≤ 1099511627776) (hc : r.pa.length ≤ cap) (hc' : cap ≤ maxLen) :
    Calls Try.prog 34 #[.slice a r.pa.length cap, .slice b p.length cap'] w fun e w' => e = .returned (.bool (kidB p r)) ∧ ∀ D, Below D w w' := by
  have hm : r.pa.length ≤ maxLen := by unfold maxLen; omega
  have hm' : p.length ≤ maxLen := by unfold maxLen; omega
  by_cases e : r.pa.length = p.length + 1
  · have HU := hide (under_any a b r.pa p cap cap' B C w h h' hm hm' hc hc')
    have HK := hide (show kidB p r = underB r.pa p by unfold kidB; simp [e])
    generalize kidB p r = R at *
    generalize underB r.pa p = U at *
    have hq : ((r.pa.length : Int) == (p.length : Int) + 1) = true := by rw [beq_iff_eq]; omega
    have HE := hide e
    clear e h h'
    go_enter Try.func34, Try.ntmps34
    go_wp2_with fail
    refine HU.out.mono ?_
    rintro e w1 ⟨rfl, hb⟩
    go_wp2
    go_ret
    exact ⟨ret_bool (by rw [HK.out]), hb⟩
  · have HK := hide (show kidB p r = false by unfold kidB; simp [e])
    generalize kidB p r = R at *
    have hq : ((r.pa.length : Int) == (p.length : Int) + 1) = false := by rw [beq_eq_false_iff_ne]; omega
    clear e h h'
    go_enter Try.func34, Try.ntmps34
    go_wp2
    go_ret
    exact ⟨ret_bool HK.out.symm, fun D => Below.refl _ _⟩

theorem caps_next {ts : List SsT} {t : SsT} (h : ∀ x ∈ ts, x.pc = x.l.length) (ht : t.pc = t.l.length) : ∀ x ∈ ts ++ [t], x.pc = x.l.length := fun x hx => by
  rcases List.mem_append.1 hx with hx | hx
  · exact h x hx
  · have e : x = t := by simpa using hx
    rw [e]; exact ht

set_option maxRecDepth 100000 in
set_option maxHeartbeats 2000000 in
theorem kidsOf_caps (a : Option Addr) (rs : List Rs) (cap B : Nat) (b : Option Addr) (p : List ByteArray) (cap' C : Nat) (w : World) (h : Rss w B a rs) (h' : Strs w C b p) (hB : B ≤ w.heap.size) (hC : C ≤ w.heap.size) (hl : rs.length ≤ 1048576) (hl' : p.length ≤ 1048576) (hs : ∀ r ∈ rs, r.pa.length ≤ 1048576 ∧ ∀ s ∈ r.pa, s.size ≤ 281474976710656) :
    Calls Try.prog 14 #[.slice a rs.length cap, .slice b p.length cap'] w fun e w' => (∃ g cap2 pb, e = .returned (.slice (some ⟨g, 0, none⟩) (kidsL rs p).length cap2) ∧ OwnSS w' w.heap.size w'.heap.size g (kidsL rs p) pb ∧ ∀ j (hj : j < (kidsL rs p).length), ∃ q, w'.cell? ⟨g, j, none⟩ = some (.slice (some ⟨q, 0, none⟩) (kidsL rs p)[j].length (kidsL rs p)[j].length)) ∧ Below w.heap.size w w' := by
  have HS := hide hs
  clear hs
  go_enter Try.func14, Try.ntmps14
  go_wp2
  go_loopw [5, 11] (fun v i wr => ∃ (k lo : Nat) (ts : List SsT), k ≤ rs.length ∧ i = .int .i64 k ∧ GrowS wr w.heap.size v ts lo ∧ w.heap.size ≤ lo ∧ ts.map (·.l) = ((rs.take k).filter (kidB p)).map (·.pa) ∧ Hid (∀ t ∈ ts, t.pc = t.l.length) ∧ Below w.heap.size w wr) (fun _ i _ => rs.length - (intOf i).toNat)
  case atStart => exact ⟨0, w.heap.size + 1, [], Nat.zero_le _, rfl, GrowS.made w w.heap.size (Nat.le_refl _), by omega, rfl, hide (fun t h => by cases h), (Below.refl _ _).alloc (Nat.le_refl _) _⟩
  case round =>
    obtain ⟨k, lo, ts, hk, rfl, hG, hlo, hts, hcp, hbe⟩ := hrel
    have HG := hide hG
    have HTS := hide hts
    clear hG hts
    by_cases hlt : k < rs.length
    · obtain ⟨b1, o1, rfl, hb1, hcc⟩ := (h.below hbe hB) (by omega)
      obtain ⟨pa, pc, qa, qc, ⟨hc0, hc1, hc2, hc3, hc4⟩, hin⟩ := hcc k hlt
      clear hcc
      have hsk := HS.out _ (List.getElem_mem hlt)
      have HBA := hide ((Below.refl wr.heap.size wr).alloc (Nat.le_refl _) (Obj.cells #[.slice pa (rs[k]).pa.length pc, .bool (rs[k]).co, .string (rs[k]).bo, .int .i64 (rs[k]).ve, .slice qa (rs[k]).ps.length qc] 35))
      have hin2 := hin.below HBA.out (Nat.le_trans hB hbe.size)
      have HQ := hide (isKid_any rs[k] pa b p pc cap' B C _ hin2.ph ((h'.below hbe hC).below HBA.out (Nat.le_trans hC hbe.size)) (by omega) (by omega) hin2.pl hin2.pm)
      have HP := hide hin2.ph
      have hlk := hsk.1
      have HSK := hide hsk.2
      obtain ⟨z, hz⟩ : ∃ z, kidB p rs[k] = z := ⟨_, rfl⟩
      rw [hz] at HQ
      have HZ := hide hz
      clear hz hin hin2 hsk
      cases z
      · have HF := hide (filter_no (q := kidB p) hlt HZ.out)
        go_wp2_with fail
        refine HQ.out.mono ?_
        rintro e w1 ⟨rfl, hb3⟩
        have b3 := HBA.out.trans (hb3 _)
        have c1 := hbe.trans (b3.mono hbe.size)
        have HG2 := hide (HG.out.next b3)
        clear b3 hb3
        go_wp2
        go_roundw
        case rel => exact ⟨k + 1, lo, ts, by omega, by go_num, HG2.out, hlo, by rw [HF.out]; exact HTS.out, hcp, c1⟩
        case measure => simp [intOf]; omega
      · have HF := hide (filter_yes (q := kidB p) hlt HZ.out)
        have HL := hide (show ts.length ≤ rs.length by
          have e1 : ts.length = ((rs.take k).filter (kidB p)).length := by have := congrArg List.length HTS.out; simpa using this
          rw [e1]; exact filter_len rs k)
        go_wp2_with fail
        refine HQ.out.mono ?_
        rintro e w1 ⟨rfl, hb3⟩
        have b3 := HBA.out.trans (hb3 _)
        have c1 := hbe.trans (b3.mono hbe.size)
        have hcl : w1.cell? ⟨wr.heap.size, 0, none⟩ = some (.slice pa (rs[k]).pa.length pc) := ((hb3 (wr.heap.size + 1)).cell (p := ⟨wr.heap.size, 0, none⟩) (Nat.lt_succ_self _)).trans (by simp)
        have HCp := hide (copyPath_any pa (rs[k]).pa pc B w1 (HP.out.below (hb3 B) (Nat.le_refl _)) (Nat.le_trans hB c1.size) hlk HSK.out)
        have hz1 := b3.size
        have HG2 := hide (HG.out.next b3)
        have HB3 := hide b3
        clear b3 hb3 HQ
        go_wp2_with fail
        refine HCp.out.mono ?_
        rintro e w2 ⟨rfl, r2, b2⟩
        have c2 := c1.trans (b2.mono c1.size)
        have HG3 := hide (HG2.out.next b2)
        have bA := (Below.refl w2.heap.size w2).alloc (Nat.le_refl _) (Obj.cells #[Value.slice (some ⟨w1.heap.size, 0, none⟩) (rs[k]).pa.length (rs[k]).pa.length] 25)
        have HG4 := hide (HG3.out.next bA)
        have HR := hide (r2.below bA)
        have HC4 := hide (c2.trans (bA.mono c2.size))
        have hlo2 : lo ≤ w1.heap.size := Nat.le_trans HG.out.top hz1
        have hlen := HL.out
        clear r2 b2 bA c1 c2
        go_wp2_with (at_builtin; refine wp_append_ss rfl _ _ rfl w.heap.size lo _ ts rfl HG4.out w2.heap.size ⟨(rs[k]).pa, w1.heap.size, (rs[k]).pa.length⟩ rfl ?_ ?_ hlo hlo2 HR.out ?_)
        · omega
        · intro v' w' hG' hB'
          have HG' := hide hG'
          have HC' := hide (HC4.out.trans (hB'.mono (Nat.le_refl _)))
          clear hG' hB'
          go_wp2
          go_roundw
          case rel => exact ⟨k + 1, _, _, by omega, by go_num, HG'.out, HC'.out.size, by rw [HF.out, List.map_append, List.map_append, HTS.out]; rfl, hide (caps_next hcp.out rfl), HC'.out⟩
          case measure => simp [intOf]; omega
    · have HF := hide (filter_end (q := kidB p) hlt)
      obtain ⟨g, cap2, e, hO⟩ := HG.out.done
      have hm : ts.map (·.l) = kidsL rs p := by rw [HTS.out, HF.out]; rfl
      have hll : ts.length = (kidsL rs p).length := by rw [← hm]; simp
      have hcc : ∀ j (hj : j < (kidsL rs p).length), ∃ q, wr.cell? ⟨g, j, none⟩ = some (.slice (some ⟨q, 0, none⟩) (kidsL rs p)[j].length (kidsL rs p)[j].length) := fun j hj => by
        have hj' : j < ts.length := by rw [hll]; exact hj
        have e1 : (kidsL rs p)[j] = ts[j].l := by simp only [← hm, List.getElem_map]
        have e2 := hcp.out ts[j] (List.getElem_mem hj')
        have hown := HG.out.own
        rw [e] at hown
        refine ⟨ts[j].p, ?_⟩
        rw [hown.cellAt j (by omega), e1]
        simp [ssCells, hj', e2]
      have HCC := hide hcc
      clear hcc
      rw [hm] at hO
      rw [hll] at e
      subst e
      clear hm hll
      go_wp2
      go_ret
      exact ⟨⟨g, cap2, _, rfl, hO, HCC.out⟩, hbe⟩
theorem kidsOf_any (a : Option Addr) (rs : List Rs) (cap B : Nat) (b : Option Addr) (p : List ByteArray) (cap' C : Nat) (w : World) (h : Rss w B a rs) (h' : Strs w C b p) (hB : B ≤ w.heap.size) (hC : C ≤ w.heap.size) (hl : rs.length ≤ 1048576) (hl' : p.length ≤ 1048576) (hs : ∀ r ∈ rs, r.pa.length ≤ 1048576 ∧ ∀ s ∈ r.pa, s.size ≤ 281474976710656) :
    Calls Try.prog 14 #[.slice a rs.length cap, .slice b p.length cap'] w fun e w' => (∃ g cap2 pb, e = .returned (.slice (some ⟨g, 0, none⟩) (kidsL rs p).length cap2) ∧ OwnSS w' w.heap.size w'.heap.size g (kidsL rs p) pb) ∧ Below w.heap.size w w' := by
  refine (kidsOf_caps a rs cap B b p cap' C w h h' hB hC hl hl' hs).mono ?_
  rintro e w' ⟨⟨g, cap2, pb, rfl, hO, _⟩, b⟩
  exact ⟨⟨g, cap2, pb, rfl, hO⟩, b⟩
end Go.Proofs.Ytafdbnadakclnaa
