/-
  What impl.inOrder's methods at numbers do: copied, with.
-/
import Derived.Test.YtcgljeagjchobaaGreatRowsI
import Derived.Test.YtcgljeagjchobaaGreatCopyCells
import Derived.Test.YtcgljeagjchobaaGreatGenPick
import Derived.WalkSpells
import Derived.WalkLawsBesides
import Derived.Deep.Light
import Derived.Deep.QuietTactic
namespace Go.Proofs.YtcgljeagjchobaaGreat
open Go.RowKit M
set_option linter.unusedVariables false

theorem own_of_cellsI {w : World} {g c : Nat} {l : List Int} (hz : g < w.heap.size) (hc : ∀ i (hi : i < l.length), w.cell? ⟨g, i, none⟩ = some (.int .i64 l[i]) ∧ w.frozen? ⟨g, i, none⟩ = false) (h1 : l.length ≤ c) (h2 : c ≤ maxLen) : Own w (.slice (some ⟨g, 0, none⟩) l.length c) (.l (l.map dI)) (fun y => y = g) := by
  have e : l.length = (l.map dI).length := by rw [List.length_map]
  rw [e]
  refine .row g 0 c 1 _ (fun j i => match l[j]? with | some s => .int .i64 s | none => .bool false) (fun _ _ _ => False) _ rfl hz (by rw [← e]; exact h1) h2 (fun r hr => by obtain ⟨x, _, rfl⟩ := List.mem_map.1 hr; rfl) (fun j i x hx => ?_) (fun j i x hx => ?_) (fun _ _ _ h => h.elim) (fun _ _ _ _ _ _ h => h.elim)
  all_goals
    unfold cellAt at hx
    by_cases hj : j < l.length
    · rw [map_at dI l j hj] at hx
      match i with
      | 0 => cases hx; rw [List.getElem?_eq_getElem hj]; first | exact .c _ _ | (have := hc j hj; simpa using this)
      | i + 1 => cases hx
    · rw [List.getElem?_eq_none (by simp; omega)] at hx; cases hx
theorem makeInts_run (n : Nat) (hn : n ≤ 1048577) (w : World) :
    (Instr.makeSlice 102 (.int .i64 (n : Int)) (.int .i64 (n : Int))).run Tryz.prog w = .ok (.slice (some ⟨w.heap.size, 0, none⟩) n n) (w.alloc (.cells (madeCells #[.int .i64 0] (n * 1)) 3)) := by
  obtain ⟨i, hi, hz, hs, hb⟩ := info_parts infoI
  have hr := run_make (P := Tryz.prog) w 102 3 i _ Tryz.underlying102 hi hz .i64 .i64 n n (by omega) (Int.le_refl _) (by rw [hb]; omega) (by omega)
  simp only [Int.toNat_natCast, hs] at hr
  exact hr
def ciL (l : List Int) : List Value := l.map (Value.int .i64)
theorem ciL_length (l : List Int) : (ciL l).length = l.length := List.length_map ..
theorem ciL_one (l : List Int) (v : Value) (h : v ∈ ciL l) : v.oneCell' = true := by obtain ⟨x, _, rfl⟩ := List.mem_map.1 h; rfl
theorem ciL_at (l : List Int) (i : Nat) (hi : i < l.length) : (ciL l)[i]? = some (.int .i64 l[i]) := by unfold ciL; rw [List.getElem?_map, List.getElem?_eq_getElem hi]; rfl

set_option maxRecDepth 100000 in
set_option maxHeartbeats 4000000 in
theorem copiedI_any (a : Option Addr) (l : List Int) (cap B : Nat) (w : World) (h : Ints w B a l) (hB : B ≤ w.heap.size) (hl : l.length ≤ 1048577) :
    Calls Tryz.prog 116 #[.slice a l.length cap] w fun e w' => (e = .returned (.slice (some ⟨w.heap.size, 0, none⟩) l.length l.length) ∧ Own w' (.slice (some ⟨w.heap.size, 0, none⟩) l.length l.length) (.l (l.map dI)) (fun y => y = w.heap.size)) ∧ Below w.heap.size w w' ∧ w.heap.size < w'.heap.size := by
  have hmk := makeInts_run l.length hl w
  have hb0 := (Below.refl w.heap.size w).alloc (Nat.le_refl _) (.cells (madeCells #[.int .i64 0] (l.length * 1)) 3)
  have hsz : (Tryz.prog.info? 3).map (·.size) = some 1 := by kernel_rfl
  have hg := heap_alloc_new w (.cells (madeCells #[.int .i64 0] (l.length * 1)) 3)
  have hmd : (madeCells #[.int .i64 0] (l.length * 1)).size = l.length * 1 := size_madeCells _ _
  obtain ⟨Z, hZ⟩ : ∃ Z, madeCells #[.int .i64 0] (l.length * 1) = Z := ⟨_, rfl⟩
  rw [hZ] at hmk hb0 hg hmd
  clear hZ
  by_cases h0 : 0 < l.length
  · obtain ⟨b, o, rfl, hbB, hc⟩ := h h0
    have hsrc : ∀ i v, (ciL l)[i]? = some v → (w.alloc (.cells Z 3)).cell? ((⟨b, o, none⟩ : Addr).add i) = some v := fun i v hv => by
      have hi := (List.getElem?_eq_some_iff.1 hv).1
      rw [ciL_length] at hi
      rw [ciL_at l i hi] at hv
      cases hv
      rw [add_pick]
      exact (hb0.cell (p := ⟨b, o + i, none⟩) (by show b < w.heap.size; omega)).trans (hc i hi)
    have hcl := ciL_length l
    have hone := ciL_one l
    have HAT := hide (ciL_at l)
    generalize ciL l = CS at *
    have hnn : CS.length = Nat.min l.length l.length * 1 := by rw [hcl]; simp
    have hfit : 0 + CS.length ≤ Z.size := by rw [hmd, hcl]; omega
    have HNN := hide hnn
    have HFIT := hide hfit
    have HSRC := hide hsrc
    have HONE := hide hone
    have HG := hide hg
    have HB := hide hb0
    have HCL := hide hcl
    clear hnn hfit hsrc hone hg hb0 hcl hc h hmd
    go_enter Tryz.func116, Tryz.ntmps116
    go_wp2_with (refine wpList_copyK rfl _ _ _ _ rfl 1 3 Tryz.underlying102 hsz w.heap.size 0 l.length l.length ⟨b, o, none⟩ l.length cap (by rfl) (by rfl) _ _ HG.out CS HNN.out HSRC.out HFIT.out HONE.out ?_)
    clear hmk
    intro w2 HW hg2
    have hbel : Below w.heap.size w w2 := HB.out.trans ⟨hg2.os, hg2.tape, hg2.output, hg2.size, fun k hk => hg2.block k (by simp; omega) (fun e => by have := Option.some.inj e; omega)⟩
    have hz : w.heap.size < w2.heap.size := by have := hg2.size; simp at this; omega
    have hO : Own w2 (.slice (some ⟨w.heap.size, 0, none⟩) l.length l.length) (.l (l.map dI)) (fun y => y = w.heap.size) := own_of_cellsI hz (fun i hi => by
      have hw := HW.out
      refine ⟨?_, ?_⟩
      · have e : w2.cell? ⟨w.heap.size, i, none⟩ = (splice Z.toList 0 CS)[i]? := by simp [World.cell?, hw]
        rw [e]
        unfold splice
        rw [List.take_zero, List.nil_append, List.getElem?_append_left (by rw [HCL.out]; exact hi), HAT.out i hi]
      · simp only [World.frozen?, hw, Bool.and_eq_false_iff, decide_eq_false_iff_not]
        right; omega) (Nat.le_refl _) (by unfold maxLen; omega)
    have HR := hide (And.intro hO (And.intro hbel hz))
    clear hO hbel hz HW hg2
    go_wp2
    go_ret
    exact ⟨⟨rfl, HR.out.1⟩, HR.out.2.1, HR.out.2.2⟩
  · have : l = [] := List.eq_nil_of_length_eq_zero (by omega)
    subst this
    have hz0 : w.heap.size < (w.alloc (.cells Z 3)).heap.size := by simp
    have hO : Own (w.alloc (.cells Z 3)) (.slice (some ⟨w.heap.size, 0, none⟩) 0 0) (.l ([].map dI)) (fun y => y = w.heap.size) := own_of_cellsI (l := []) hz0 (fun i hi => absurd hi (Nat.not_lt_zero _)) (Nat.le_refl _) (Nat.zero_le _)
    obtain ⟨W0, hW0⟩ : ∃ W, w.alloc (.cells Z 3) = W := ⟨_, rfl⟩
    rw [hW0] at hmk hb0 hO hz0
    have hmk2 : (Instr.makeSlice 102 (.int .i64 0) (.int .i64 0)).run Tryz.prog w = .ok (.slice (some ⟨w.heap.size, 0, none⟩) 0 0) W0 := hmk
    have HR := hide (And.intro hO (And.intro hb0 hz0))
    clear hW0 hmk hb0 hO hz0 hg hmd h h0
    go_enter Tryz.func116, Tryz.ntmps116
    go_wp2_with (refine wpList_copy_nothingK rfl _ _ _ _ rfl 1 3 Tryz.underlying102 hsz _ _ _ _ _ _ (by rfl) (by rfl) (by rfl) ?_)
    clear hmk2
    go_wp2
    go_ret
    exact ⟨⟨rfl, HR.out.1⟩, HR.out.2.1, HR.out.2.2⟩

set_option maxRecDepth 100000 in
set_option maxHeartbeats 4000000 in
theorem withI_any (a : Option Addr) (l : List Int) (cap B : Nat) (x : Int) (w : World) (h : Ints w B a l) (hB : B ≤ w.heap.size) (hl : l.length ≤ 1048576) :
    Calls Tryz.prog 89 #[.slice a l.length cap, .int .i64 x] w fun e w' => (e = .returned (.slice (some ⟨w.heap.size, 0, none⟩) (l.length + 1) (l.length + 1)) ∧ Own w' (.slice (some ⟨w.heap.size, 0, none⟩) (l.length + 1) (l.length + 1)) (.l ((l ++ [x]).map dI)) (fun y => y = w.heap.size)) ∧ Below w.heap.size w w' ∧ w.heap.size < w'.heap.size := by
  have hmk0 := makeInts_run (l.length + 1) (by omega) w
  have hb0 := (Below.refl w.heap.size w).alloc (Nat.le_refl _) (.cells (madeCells #[.int .i64 0] ((l.length + 1) * 1)) 3)
  have hsz : (Tryz.prog.info? 3).map (·.size) = some 1 := by kernel_rfl
  have hg := heap_alloc_new w (.cells (madeCells #[.int .i64 0] ((l.length + 1) * 1)) 3)
  have hmd : (madeCells #[.int .i64 0] ((l.length + 1) * 1)).size = (l.length + 1) * 1 := size_madeCells _ _
  obtain ⟨Z, hZ⟩ : ∃ Z, madeCells #[.int .i64 0] ((l.length + 1) * 1) = Z := ⟨_, rfl⟩
  rw [hZ] at hmk0 hb0 hg hmd
  clear hZ
  have hmk : (Instr.makeSlice 102 (.int .i64 ((l.length : Int) + 1)) (.int .i64 ((l.length : Int) + 1))).run Tryz.prog w = .ok (.slice (some ⟨w.heap.size, 0, none⟩) (l.length + 1) (l.length + 1)) (w.alloc (.cells Z 3)) := hmk0
  clear hmk0
  have hi0 : (0 : Int) ≤ (l.length : Int) := by omega
  have hi2 : (l.length : Int) < (l.length : Int) + 1 := by omega
  by_cases h0 : 0 < l.length
  · obtain ⟨b, o, rfl, hbB, hc⟩ := h h0
    have hsrc : ∀ i v, (ciL l)[i]? = some v → (w.alloc (.cells Z 3)).cell? ((⟨b, o, none⟩ : Addr).add i) = some v := fun i v hv => by
      have hi := (List.getElem?_eq_some_iff.1 hv).1
      rw [ciL_length] at hi
      rw [ciL_at l i hi] at hv
      cases hv
      rw [add_pick]
      exact (hb0.cell (p := ⟨b, o + i, none⟩) (by show b < w.heap.size; omega)).trans (hc i hi)
    have hcl := ciL_length l
    have hone := ciL_one l
    have HAT := hide (ciL_at l)
    generalize ciL l = CS at *
    have hmn : Nat.min l.length (l.length + 1) = l.length := Nat.min_eq_left (by omega)
    have hnn : CS.length = Nat.min l.length (l.length + 1) * 1 := by rw [hcl, hmn]; simp
    have hfit : 0 + CS.length ≤ Z.size := by rw [hmd, hcl]; omega
    have HNN := hide hnn
    have HFIT := hide hfit
    have HSRC := hide hsrc
    have HONE := hide hone
    have HG := hide hg
    have HB := hide hb0
    have HCL := hide hcl
    have HMD := hide hmd
    clear hnn hfit hsrc hone hg hb0 hcl hc h hmd
    go_enter Tryz.func89, Tryz.ntmps89
    go_wp2_with (refine wpList_copyK rfl _ _ _ _ rfl 1 3 Tryz.underlying102 hsz w.heap.size 0 (l.length + 1) (l.length + 1) ⟨b, o, none⟩ l.length cap (by rfl) (by rfl) _ _ HG.out CS HNN.out HSRC.out HFIT.out HONE.out ?_)
    clear hmk
    intro w2 HW hg2
    try rw [hmn]
    have hbel : Below w.heap.size w w2 := HB.out.trans ⟨hg2.os, hg2.tape, hg2.output, hg2.size, fun k hk => hg2.block k (by simp; omega) (fun e => by have := Option.some.inj e; omega)⟩
    have hz : w.heap.size < w2.heap.size := by have := hg2.size; simp at this; omega
    have hcell : ∀ q, w2.cell? ⟨w.heap.size, q, none⟩ = (splice Z.toList 0 CS)[q]? := fun q => by
      have := HW.out
      simp [World.cell?, this]
    have hfz : ∀ q, w2.frozen? ⟨w.heap.size, q, none⟩ = false := fun q => by
      have := HW.out
      simp only [World.frozen?, this, Bool.and_eq_false_iff, decide_eq_false_iff_not]
      right; omega
    have hsl : (splice Z.toList 0 CS).length = l.length + 1 := by rw [length_splice _ _ _ (by rw [Array.length_toList]; exact HFIT.out), Array.length_toList, HMD.out]; omega
    obtain ⟨v0, c0⟩ : ∃ v, w2.cell? ⟨w.heap.size, l.length, none⟩ = some v := by rw [hcell]; exact ⟨_, List.getElem?_eq_getElem (by omega)⟩
    have f0 := hfz l.length
    have hO : Own (w2.setCell ⟨w.heap.size, l.length, none⟩ (.int .i64 x)) (.slice (some ⟨w.heap.size, 0, none⟩) (l ++ [x]).length (l.length + 1)) (.l ((l ++ [x]).map dI)) (fun y => y = w.heap.size) := own_of_cellsI (by simpa using hz) (fun i hi => by
      rw [World.frozen?_setCell]
      refine ⟨?_, hfz i⟩
      by_cases e : i = l.length
      · subst e
        rw [World.cell?_setCell_same _ _ _ c0, List.getElem_append_right (Nat.le_refl _)]
        simp
      · have hi' : i < l.length := by simp at hi; omega
        rw [World.cell?_setCell_other _ _ _ _ (fun e' => e (congrArg Addr.off e').symm), hcell, List.getElem_append_left hi']
        unfold splice
        rw [List.take_zero, List.nil_append, List.getElem?_append_left (by rw [HCL.out]; exact hi'), HAT.out i hi']) (by simp) (by unfold maxLen; omega)
    have hlen : (l ++ [x]).length = l.length + 1 := by simp
    rw [hlen] at hO
    have HR := hide (And.intro hO (And.intro (hbel.setCell (p := ⟨w.heap.size, l.length, none⟩) (Nat.le_refl _) (.int .i64 x)) (show w.heap.size < (w2.setCell ⟨w.heap.size, l.length, none⟩ (.int .i64 x)).heap.size by simpa using hz)))
    clear hO hbel hz HW hg2 hcell hfz hsl hlen hmn HNN HFIT HSRC HONE HG HB HCL HMD HAT
    go_wp2
    go_ret
    exact ⟨⟨rfl, HR.out.1⟩, HR.out.2.1, HR.out.2.2⟩
  · have : l = [] := List.eq_nil_of_length_eq_zero (by omega)
    subst this
    have hZs : Z.size = 1 := by simpa using hmd
    have hz0 : w.heap.size < (w.alloc (.cells Z 3)).heap.size := by simp
    obtain ⟨v0, c0⟩ : ∃ v, (w.alloc (.cells Z 3)).cell? ⟨w.heap.size, 0, none⟩ = some v := by
      have e : (w.alloc (.cells Z 3)).cell? ⟨w.heap.size, 0, none⟩ = Z[0]? := by simp only [World.cell?, hg]; rfl
      rw [e]; exact ⟨_, Array.getElem?_eq_getElem (by omega)⟩
    have f0 : (w.alloc (.cells Z 3)).frozen? ⟨w.heap.size, 0, none⟩ = false := by
      simp only [World.frozen?, hg, Bool.and_eq_false_iff, decide_eq_false_iff_not]
      right; omega
    obtain ⟨W0, hW0⟩ : ∃ W, w.alloc (.cells Z 3) = W := ⟨_, rfl⟩
    rw [hW0] at hmk hb0 hz0 c0 f0
    have hO : Own (W0.setCell ⟨w.heap.size, 0, none⟩ (.int .i64 x)) (.slice (some ⟨w.heap.size, 0, none⟩) 1 1) (.l ([x].map dI)) (fun y => y = w.heap.size) := own_of_cellsI (l := [x]) (by simpa using hz0) (fun i hi => by
      have e : i = 0 := by simp at hi; exact hi
      subst e
      rw [World.frozen?_setCell]
      exact ⟨World.cell?_setCell_same _ _ _ c0, f0⟩) (by simp) (by decide)
    have hmk2 : (Instr.makeSlice 102 (.int .i64 1) (.int .i64 1)).run Tryz.prog w = .ok (.slice (some ⟨w.heap.size, 0, none⟩) 1 1) W0 := hmk
    have HR := hide (And.intro hO (And.intro (hb0.setCell (p := ⟨w.heap.size, 0, none⟩) (Nat.le_refl _) (.int .i64 x)) (show w.heap.size < (W0.setCell ⟨w.heap.size, 0, none⟩ (.int .i64 x)).heap.size by simpa using hz0)))
    clear hW0 hmk hb0 hO hz0 hg hmd h h0 hZs
    go_enter Tryz.func89, Tryz.ntmps89
    go_wp2_with (refine wpList_copy_nothingK rfl _ _ _ _ rfl 1 3 Tryz.underlying102 hsz _ _ _ _ _ _ (by rfl) (by rfl) (by rfl) ?_)
    clear hmk2
    go_wp2
    go_ret
    exact ⟨⟨rfl, HR.out.1⟩, HR.out.2.1, HR.out.2.2⟩
end Go.Proofs.YtcgljeagjchobaaGreat
