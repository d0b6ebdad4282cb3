/-
  What impl.inOrder's methods at locks do that make rows: copied, those; and impl.copyLocks.
-/
import Derived.Test.YtclnpfpaabmkcabSpecPl
import Derived.Test.YtclnpfpaabmkcabPlaceB
namespace Go.Proofs.Ytclnpfpaabmkcab
open Go.RowKit M
set_option linter.unusedVariables false

theorem makeOrder_run (n : Nat) (hn : n ≤ 1048577) (w : World) :
    (Instr.makeSlice 75 (.int .i64 (n : Int)) (.int .i64 (n : Int))).run Try.prog w = .ok (.slice (some ⟨w.heap.size, 0, none⟩) n n) (w.alloc (.cells (madeCells #[.int .i64 0, .slice none 0 0, .bool false, .bool false, .int .i64 0] (n * 5)) 26)) := by
  obtain ⟨i, hi, hz, hs, hb⟩ := info_parts info_lock
  have hr := run_make (P := Try.prog) w 75 26 i _ Try.underlying75 hi hz .i64 .i64 n n (by omega) (Int.le_refl _) (by rw [hb]; omega) (by omega)
  simp only [Int.toNat_natCast, hs] at hr
  exact hr

set_option maxRecDepth 100000 in
set_option maxHeartbeats 2000000 in
theorem copied_some (ad : Addr) (l : List Lk) (cap B : Nat) (w : World) (h : Lks w B (some ad) l) (hB : B ≤ w.heap.size) (hl : l.length ≤ 1048577) :
    Calls Try.prog 87 #[.slice (some ad) l.length cap] w fun e w' => (e = .returned (.slice (some ⟨w.heap.size, 0, none⟩) l.length l.length) ∧ ∃ ts : List LkT, ts.map (·.r) = l ∧ RowV w' w.heap.size ts ∧ InV w' B ts) ∧ Below w.heap.size w w' := by
  obtain ⟨ts, hts, hin, hat⟩ := h.ts
  have hl2 : ts.length = l.length := by rw [← hts, List.length_map]
  have hmk := makeOrder_run l.length hl w
  have hb0 := (Below.refl w.heap.size w).alloc (Nat.le_refl _) (.cells (madeCells #[.int .i64 0, .slice none 0 0, .bool false, .bool false, .int .i64 0] (l.length * 5)) 26)
  have hsz : (Try.prog.info? 26).map (·.size) = some 5 := by kernel_rfl
  have hg := heap_alloc_new w (.cells (madeCells #[.int .i64 0, .slice none 0 0, .bool false, .bool false, .int .i64 0] (l.length * 5)) 26)
  have hsrc : ∀ i v, (lkCells ts)[i]? = some v → (w.alloc (.cells (madeCells #[.int .i64 0, .slice none 0 0, .bool false, .bool false, .int .i64 0] (l.length * 5)) 26)).cell? (ad.add i) = some v := fun i v hv => by
    have h0 : 0 < l.length := by
      have := (List.getElem?_eq_some_iff.1 hv).1
      rw [lkCells_length] at this
      omega
    obtain ⟨b, o, e, hbB, hc⟩ := hat h0
    cases e
    have := lks_src hc i v hv
    rw [add_pick] at this ⊢
    exact (hb0.cell (p := ⟨b, o + i, none⟩) (by show b < w.heap.size; omega)).trans this
  have hcl := lkCells_length ts
  obtain ⟨CS, hCS⟩ : ∃ CS, CS = lkCells ts := ⟨_, rfl⟩
  rw [← hCS] at hsrc hcl
  have HCS := hide hCS
  have HONE := hide (fun v (hv : v ∈ CS) => lkCells_one ts v (by rw [← hCS]; exact hv))
  have HIN := hide hin
  have HTS := hide hts
  have HL := hide hl2
  have HSRC := hide hsrc
  have HCL := hide hcl
  have HG := hide hg
  have HB := hide hb0
  have hmd : (madeCells #[.int .i64 0, .slice none 0 0, .bool false, .bool false, .int .i64 0] (l.length * 5)).size = l.length * 5 := size_madeCells _ _
  have HMD := hide hmd
  clear hCS hin hts hl2 hsrc hcl hg hb0 hat h hmd
  go_enter Try.func87, Try.ntmps87
  have hnn : CS.length = Nat.min l.length l.length * 5 := by rw [HCL.out, HL.out]; simp
  have hfit : 0 + CS.length ≤ (madeCells #[.int .i64 0, .slice none 0 0, .bool false, .bool false, .int .i64 0] (l.length * 5)).size := by rw [HMD.out, HCL.out, HL.out]; omega
  have HNN := hide hnn
  have HFIT := hide hfit
  clear hnn hfit
  go_wp2_with (refine wpList_copyK rfl _ _ _ _ rfl 5 26 Try.underlying75 hsz w.heap.size 0 l.length l.length ad l.length cap (by rfl) (by rfl) _ _ HG.out CS HNN.out HSRC.out HFIT.out HONE.out ?_)
  clear hmk
  intro w2 HW hg2
  have hrow : RowV w2 w.heap.size ts := RowV.heap HW.out (fun i hi => by
    rw [List.getElem?_toArray]
    unfold splice
    rw [List.take_zero, List.nil_append, List.getElem?_append_left (by rw [HCL.out]; omega), HCS.out])
  have hbel : Below w.heap.size w w2 := HB.out.trans ⟨hg2.os, hg2.tape, hg2.output, hg2.size, fun k hk => hg2.block k (by simp; omega) (fun e => by have := Option.some.inj e; omega)⟩
  have HR := hide (And.intro hrow (HIN.out.below hbel hB))
  have HBE := hide hbel
  clear hrow hbel HW hg2
  go_wp2
  go_ret
  exact ⟨⟨rfl, ts, HTS.out, HR.out.1, HR.out.2⟩, HBE.out⟩

set_option maxRecDepth 100000 in
set_option maxHeartbeats 2000000 in
theorem copied_any (a : Option Addr) (l : List Lk) (cap B : Nat) (w : World) (h : Lks w B a l) (hB : B ≤ w.heap.size) (hl : l.length ≤ 1048577) :
    Calls Try.prog 87 #[.slice a l.length cap] w fun e w' => (e = .returned (.slice (some ⟨w.heap.size, 0, none⟩) l.length l.length) ∧ ∃ ts : List LkT, ts.map (·.r) = l ∧ RowV w' w.heap.size ts ∧ InV w' B ts) ∧ Below w.heap.size w w' := by
  by_cases h0 : 0 < l.length
  · obtain ⟨b, o, rfl, _⟩ := h h0
    exact copied_some _ l cap B w h hB hl
  · have : l = [] := List.eq_nil_of_length_eq_zero (by omega)
    subst this
    have hmk : (Instr.makeSlice 75 (.int .i64 0) (.int .i64 0)).run Try.prog w = .ok (.slice (some ⟨w.heap.size, 0, none⟩) 0 0) (w.alloc (.cells (madeCells #[.int .i64 0, .slice none 0 0, .bool false, .bool false, .int .i64 0] (0 * 5)) 26)) := makeOrder_run 0 (by omega) w
    have hsz : (Try.prog.info? 26).map (·.size) = some 5 := by kernel_rfl
    have hb0 := (Below.refl w.heap.size w).alloc (Nat.le_refl _) (.cells (madeCells #[.int .i64 0, .slice none 0 0, .bool false, .bool false, .int .i64 0] (0 * 5)) 26)
    have hrow : RowV (w.alloc (.cells (madeCells #[.int .i64 0, .slice none 0 0, .bool false, .bool false, .int .i64 0] (0 * 5)) 26)) w.heap.size [] := RowV.heap (heap_alloc_new w _) (fun i hi => absurd hi (by simp))
    obtain ⟨W0, hW0⟩ : ∃ W, w.alloc (.cells (madeCells #[.int .i64 0, .slice none 0 0, .bool false, .bool false, .int .i64 0] (0 * 5)) 26) = W := ⟨_, rfl⟩
    rw [hW0] at hmk hb0 hrow
    clear hW0
    have HB := hide hb0
    have HR := hide hrow
    clear hb0 hrow
    go_enter Try.func87, Try.ntmps87
    go_wp2_with (refine wpList_copy_nothingK rfl _ _ _ _ rfl 5 26 Try.underlying75 hsz _ _ _ _ _ _ (by rfl) (by rfl) (by rfl) ?_)
    clear hmk
    go_wp2
    go_ret
    exact ⟨⟨rfl, [], rfl, HR.out, fun t ht => by cases ht⟩, HB.out⟩

set_option maxRecDepth 100000 in
set_option maxHeartbeats 4000000 in
/-- Those that are wanted: their paths lie where they lay. -/
theorem those_any (fn : Nat) (hE : ∀ args w, (callFunc fn args).run Try.prog w = .ok (.enter fn args) w) (cp : Array Value) (P : Lk → Bool) (a : Option Addr) (l : List Lk) (cap B : Nat) (w : World) (h : Lks w B a l) (hB : B ≤ w.heap.size) (hl : l.length ≤ 1048577)
    (hP : ∀ k (hk : k < l.length) pa pc W, Below w.heap.size w W → LkIn W B l[k] pa pc → Calls Try.prog fn (#[.agg #[.int .i64 l[k].tk, .slice pa l[k].pa.length pc, .bool l[k].de, .bool l[k].sh, .int .i64 l[k].un]] ++ cp) W fun e w' => e = .returned (.bool (P l[k])) ∧ Below W.heap.size W w') :
    Calls Try.prog 62 #[.slice a l.length cap, .func (.func fn) #[] cp] w fun e w' => (∃ (g n c : Nat) (ts : List LkT), e = .returned (.slice (some ⟨g, 0, none⟩) n c) ∧ n = ts.length ∧ n ≤ c ∧ c ≤ maxLen ∧ w.heap.size ≤ g ∧ g < w'.heap.size ∧ ts.map (·.r) = l.filter P ∧ RowV w' g ts ∧ InV w' B ts) ∧ Below w.heap.size w w' := by
  have HH := hide h
  have HP := hide hP
  have HE := hide hE
  have HO := hide (OwnT.made w w.heap.size (Nat.le_refl _))
  clear h hP hE
  go_enter Try.func62, Try.ntmps62
  go_wp2
  go_loopw [5, 11] (fun v i wr => ∃ (k g n c : Nat) (ts : List LkT), k ≤ l.length ∧ i = .int .i64 k ∧ v = .slice (some ⟨g, 0, none⟩) n c ∧ ts.length ≤ k ∧ Hid (OwnT wr w.heap.size (.slice (some ⟨g, 0, none⟩) n c) ts) ∧ Hid (ts.map (·.r) = (l.take k).filter P) ∧ Hid (InV wr B ts) ∧ Below w.heap.size w wr) (fun _ i _ => l.length - (intOf i).toNat)
  case atStart => exact ⟨0, _, _, _, [], Nat.zero_le _, rfl, rfl, Nat.le_refl _, HO, (by show _ = _; simp), (fun t ht => by cases ht), (Below.refl _ _).alloc (Nat.le_refl _) _⟩
  case round =>
    obtain ⟨k, g, n, c, ts, hk, rfl, rfl, htl, HOW, HTS, HIN, hbe⟩ := hrel
    by_cases hlt : k < l.length
    · obtain ⟨b, o, rfl, hb, hc⟩ := (HH.out.below hbe hB) (by omega)
      obtain ⟨pa, pc, ⟨hc0, hc1, hc2, hc3, hc4⟩, hin⟩ := hc k hlt
      have b1 := (Below.refl wr.heap.size wr).alloc (Nat.le_refl _) (Obj.cells #[.int .i64 l[k].tk, .slice pa l[k].pa.length pc, .bool l[k].de, .bool l[k].sh, .int .i64 l[k].un] 26)
      have c1 := hbe.trans (b1.mono hbe.size)
      have hin1 := hin.below b1 (Nat.le_trans hB hbe.size)
      have HC := hide (HP.out k hlt pa pc _ c1 hin1)
      have HB1 := hide (BoxL.made wr l[k] pa pc 26)
      have HI1 := hide hin1
      have HO1 := hide (HOW.out.next b1)
      have HV1 := hide (HIN.out.below b1 (Nat.le_trans hB hbe.size))
      have HC1 := hide c1
      have HF := hide (show (l.take (k + 1)).filter P = (l.take k).filter P ++ (if P l[k] = true then [l[k]] else []) by rw [List.take_succ_eq_append_getElem hlt, List.filter_append, List.filter_cons, List.filter_nil])
      obtain ⟨z, hz⟩ : ∃ z, P l[k] = z := ⟨_, rfl⟩
      rw [hz] at HC HF
      clear hz hc hin hin1 b1 c1 HOW HIN hbe
      go_wp2_with fail
      rw [HE.out, Oper.upon_enter]
      refine HC.out.mono ?_
      rintro e w1 ⟨rfl, b2⟩
      have HB2 := hide (HB1.out.next b2)
      have HI2 := hide (HI1.out.below b2 (Nat.le_trans hB HC1.out.size))
      have HO2 := hide (HO1.out.next b2)
      have HV2 := hide (HV1.out.below b2 (Nat.le_trans hB HC1.out.size))
      have HC2 := hide (HC1.out.trans (b2.mono HC1.out.size))
      obtain ⟨_, x0, x1, x2, x3, x4⟩ := HB2.out
      clear b2 HB1 HI1 HO1 HV1 HC1 HC hc0 hc1 hc2 hc3 hc4
      cases z
      · go_wp2
        go_roundw
        case rel => exact ⟨k + 1, g, n, c, ts, by omega, by go_num, rfl, by omega, HO2, (by show _ = _; rw [HF.out, HTS.out]; simp), HV2, HC2.out⟩
        case measure => simp [intOf]; omega
      · have hs2 := HC2.out.size
        have bA := (Below.refl w1.heap.size w1).alloc (Nat.le_refl _) (Obj.cells #[.int .i64 l[k].tk, .slice pa l[k].pa.length pc, .bool l[k].de, .bool l[k].sh, .int .i64 l[k].un] 26)
        have HO3 := hide (HO2.out.next bA)
        have HV3 := hide (HV2.out.below bA (Nat.le_trans hB hs2))
        have HI3 := hide (HI2.out.below bA (Nat.le_trans hB hs2))
        have HC3 := hide (HC2.out.trans (bA.mono hs2))
        have hln : ts.length + 1 ≤ 1099511627776 := by omega
        have hs3 := HC3.out.size
        clear bA HO2 HV2 HI2 HC2
        go_wp2_with (at_builtin; refine wp_append_lkT 75 Try.underlying75 rfl _ _ rfl w.heap.size _ ts rfl HO3.out _ ⟨l[k], pa, pc⟩ rfl (by refine ⟨?_, ?_, ?_, ?_, ?_⟩ <;> simp [go_sem]) hln hs3 ?_)
        intro g9 n9 c9 w9 hn9 hO9 hb9 hg9 _
        have HO9 := hide hO9
        have HB9 := hide (HC3.out.trans hb9)
        have HV9 := hide (show InV w9 B (ts ++ [⟨l[k], pa, pc⟩]) from fun t ht => by
          rcases List.mem_append.1 ht with h | h
          · exact (HV3.out t h).below hb9 hB
          · obtain rfl := List.mem_singleton.1 h; exact HI3.out.below hb9 hB)
        clear hO9 hb9 hg9 hn9 HO3 HV3 HI3 HC3
        go_wp2
        go_roundw
        case rel => exact ⟨k + 1, g9, n9, c9, _, by omega, by go_num, rfl, by simp; omega, HO9, (by show _ = _; rw [HF.out, List.map_append, HTS.out]; simp), HV9, HB9.out⟩
        case measure => simp [intOf]; omega
    · have HF := hide (show l.take k = l from List.take_of_length_le (by omega))
      obtain ⟨e1, e2, e3, e4, e5⟩ := HOW.out.row
      have HEE := hide (And.intro e1 (And.intro e2 (And.intro e3 (And.intro e4 e5))))
      clear e1 e2 e3 e4 e5
      go_wp2
      go_ret
      exact ⟨⟨g, n, c, ts, rfl, HEE.out.1, HEE.out.2.2.1, HEE.out.2.2.2.1, HEE.out.2.2.2.2, HEE.out.2.1.1, by rw [HTS.out, HF.out], HEE.out.2.1, HIN.out⟩, hbe⟩

/-- A row whose first k paths were copied. -/
def CopyV (w : World) (g B : Nat) (l : List Lk) (k : Nat) : Prop :=
  ∃ (ts : List LkT) (pb : Nat → Nat), ts.map (·.r) = l ∧ RowV w g ts ∧ (∀ j (hj : j < ts.length), j < k → ts[j].pa = some ⟨pb j, 0, none⟩ ∧ ts[j].pc = ts[j].r.pa.length ∧ RowS w (pb j) ts[j].r.pa ∧ g < pb j ∧ ∀ i, i < j → pb i < pb j) ∧ ∀ j (hj : j < ts.length), k ≤ j → LkIn w B ts[j].r ts[j].pa ts[j].pc
theorem CopyV.next0 {w w' : World} {g B k : Nat} {l : List Lk} (h : CopyV w g B l k) (hb : Below w.heap.size w w') (hB : B ≤ w.heap.size) : CopyV w' g B l k := by
  obtain ⟨ts, pb, h1, h2, h3, h4⟩ := h
  exact ⟨ts, pb, h1, h2.below hb, fun j hj hjk => by obtain ⟨a, b, c, d⟩ := h3 j hj hjk; exact ⟨a, b, c.below hb, d⟩, fun j hj hjk => (h4 j hj hjk).below hb hB⟩
theorem CopyV.next {w w1 : World} {g B k : Nat} {l : List Lk} (h : CopyV w g B l k) (hb : Below w.heap.size w w1) (hB : B ≤ w.heap.size) (hg : B ≤ g) (hk : k < l.length) (p : Nat) (hp : w.heap.size ≤ p) (rp : RowS w1 p l[k].pa) :
    CopyV (w1.setCell ⟨g, k * 5 + 1, none⟩ (.slice (some ⟨p, 0, none⟩) l[k].pa.length l[k].pa.length)) g B l (k + 1) := by
  obtain ⟨ts, pb, h1, h2, h3, h4⟩ := h
  have hl : ts.length = l.length := by rw [← h1, List.length_map]
  have hkt : k < ts.length := by omega
  have er : ts[k].r = l[k] := by simp [← h1]
  have hgl := h2.1
  refine ⟨ts.set k ⟨l[k], some ⟨p, 0, none⟩, l[k].pa.length⟩, fun i => if i = k then p else pb i, ?_, ⟨by simpa using Nat.lt_of_lt_of_le hgl hb.size, fun j hj => ?_, fun i => by rw [World.frozen?_setCell, hb.frozen (p := ⟨g, i, none⟩) hgl]; exact h2.2.2 i⟩, fun j hj hjk => ?_, fun j hj hjk => ?_⟩
  · rw [List.map_set, h1]
    show l.set k l[k] = l
    exact List.set_getElem_self hk
  · have hj' : j < ts.length := by simpa using hj
    have hc1 := ((h2.below hb).2.1 j hj')
    have far : ∀ o, o ≠ k * 5 + 1 → (w1.setCell ⟨g, k * 5 + 1, none⟩ (.slice (some ⟨p, 0, none⟩) l[k].pa.length l[k].pa.length)).cell? ⟨g, o, none⟩ = w1.cell? ⟨g, o, none⟩ := fun o hne => World.cell?_setCell_other _ _ _ _ (fun e => hne (congrArg Addr.off e).symm)
    by_cases e : k = j
    · subst e
      rw [List.getElem_set_self]
      obtain ⟨c0, c1, c2, c3, c4⟩ := hc1
      rw [er] at c0 c2 c3 c4
      exact ⟨by rw [far _ (by omega)]; exact c0, World.cell?_setCell_same _ _ _ c1, by rw [far _ (by omega)]; exact c2, by rw [far _ (by omega)]; exact c3, by rw [far _ (by omega)]; exact c4⟩
    · rw [List.getElem_set_ne e]
      obtain ⟨c0, c1, c2, c3, c4⟩ := hc1
      exact ⟨by rw [far _ (by omega)]; exact c0, by rw [far _ (by omega)]; exact c1, by rw [far _ (by omega)]; exact c2, by rw [far _ (by omega)]; exact c3, by rw [far _ (by omega)]; exact c4⟩
  · have hj' : j < ts.length := by simpa using hj
    by_cases e : k = j
    · subst e
      rw [List.getElem_set_self]
      refine ⟨by simp, rfl, ?_, by simp; omega, fun i hi => ?_⟩
      · simp only [if_true]; exact rp.setCellL _ _ (by simp; omega)
      · simp only [show ¬ i = k by omega, if_true, if_false]
        have := (h3 i (by omega) hi).2.2.1.1
        omega
    · rw [List.getElem_set_ne e]
      obtain ⟨a, b, c, d, f⟩ := h3 j hj' (by omega)
      simp only [show ¬ j = k by omega, if_false]
      exact ⟨a, b, (c.below hb).setCellL _ _ (by simp; omega), d, fun i hi => by simp only [show ¬ i = k by omega, if_false]; exact f i hi⟩
  · have hj' : j < ts.length := by simpa using hj
    rw [List.getElem_set_ne (by omega)]
    refine ((h4 j hj' (by omega)).below hb hB).of (fun b o hbB => World.cell?_setCell_other _ _ _ _ (fun e => ?_))
    have := congrArg Addr.block e
    simp only at this
    omega
theorem CopyV.done {w : World} {g B k : Nat} {l : List Lk} (h : CopyV w g B l k) (hk : l.length ≤ k) (hm : ∀ r ∈ l, r.pa.length ≤ maxLen) : ∃ pb, OwnL w g w.heap.size g l pb := by
  obtain ⟨ts, pb, h1, h2, h3, h4⟩ := h
  have hl : ts.length = l.length := by rw [← h1, List.length_map]
  have er : ∀ j (hj : j < l.length), (ts[j]'(by omega)).r = l[j] := fun j hj => by simp [← h1]
  refine ⟨pb, Nat.le_refl _, h2.1, h2.1, h2.2.2, fun j hj => ?_, fun j hj => ?_, fun j hj => ?_, fun i j hij hj => ?_⟩
  · obtain ⟨a, b, c, d, f⟩ := h3 j (by omega) (by omega)
    have hc := h2.2.1 j (by omega)
    rw [er j hj, a] at hc
    exact ⟨_, hc, by rw [b, er j hj]; exact Nat.le_refl _, by rw [b, er j hj]; exact hm _ (List.getElem_mem hj)⟩
  · have := (h3 j (by omega) (by omega)).2.2.1
    rwa [er j hj] at this
  · obtain ⟨a, b, c, d, f⟩ := h3 j (by omega) (by omega)
    have := c.1
    exact ⟨by omega, this, by omega⟩
  · have := (h3 j (by omega) (by omega)).2.2.2.2 i hij
    omega

set_option maxRecDepth 100000 in
set_option maxHeartbeats 4000000 in
theorem copyLocks_any (a : Option Addr) (l : List Lk) (cap B : Nat) (w : World) (h : Lks w B a l) (hB : B ≤ w.heap.size) (hl : l.length ≤ 1048577) (hs : ∀ r ∈ l, r.pa.length ≤ 1048576 ∧ ∀ s ∈ r.pa, s.size ≤ 281474976710656) :
    Calls Try.prog 47 #[.slice a l.length cap] w fun e w' => (∃ g : Nat, e = .returned (.slice (some ⟨g, 0, none⟩) l.length l.length) ∧ w.heap.size ≤ g ∧ ∃ pb, OwnL w' g w'.heap.size g l pb) ∧ Below w.heap.size w w' := by
  have HC := hide (copied_any a l cap B w h hB hl)
  have HS := hide hs
  clear h hs
  go_enter Try.func47, Try.ntmps47
  go_wp2_with fail
  refine HC.out.mono ?_
  rintro e w0 ⟨⟨rfl, ts, hts, hrow, hin⟩, b0⟩
  have HR0 := hide (show CopyV w0 w.heap.size B l 0 from ⟨ts, fun _ => 0, hts, hrow, fun j _ hj => absurd hj (Nat.not_lt_zero _), fun j hj _ => hin _ (List.getElem_mem hj)⟩)
  clear hts hrow hin HC
  go_wp2
  go_loopw [10] (fun i wr => ∃ k : Nat, k ≤ l.length ∧ i = .int .i64 k ∧ Hid (CopyV wr w.heap.size B l k) ∧ Below w.heap.size w wr) (fun i _ => l.length - (intOf i).toNat)
  case atStart => exact ⟨0, Nat.zero_le _, rfl, HR0, b0⟩
  case round =>
    obtain ⟨k, hk, rfl, HR, hbe⟩ := hrel
    by_cases hlt : k < l.length
    · obtain ⟨t, ht0, ht1, ht2⟩ : ∃ t : LkT, t.r = l[k] ∧ LkAt wr w.heap.size (k * 5) t.r t.pa t.pc ∧ LkIn wr B t.r t.pa t.pc := by
        obtain ⟨ts, pb, h1, h2, h3, h4⟩ := HR.out
        have hl2 : ts.length = l.length := by rw [← h1, List.length_map]
        exact ⟨ts[k], by simp [← h1], h2.2.1 k (by omega), h4 k (by omega) (Nat.le_refl _)⟩
      obtain ⟨r, pa, pc⟩ := t
      simp only at ht0 ht1 ht2
      subst ht0
      obtain ⟨hc0, hc1, hc2, hc3, hc4⟩ := ht1
      have hBr := Nat.le_trans hB hbe.size
      have b1 := (Below.refl wr.heap.size wr).alloc (Nat.le_refl _) (Obj.cells #[.int .i64 l[k].tk, .slice pa l[k].pa.length pc, .bool l[k].de, .bool l[k].sh, .int .i64 l[k].un] 26)
      have HR1 := hide (HR.out.next0 b1 hBr)
      have hsx := HS.out _ (List.getElem_mem hlt)
      have HP := hide (copyPath_any pa l[k].pa pc B _ (ht2.below b1 hBr).ph (Nat.le_trans hBr b1.size) hsx.1 hsx.2)
      have HC1 := hide (hbe.trans (b1.mono hbe.size))
      clear b1 ht2 hsx HR
      go_wp2_with fail
      refine HP.out.mono ?_
      rintro e w1 ⟨rfl, rp, b2⟩
      have HR2 := hide (HR1.out.next b2 (Nat.le_trans hB HC1.out.size) hB hlt _ (Nat.le_refl _) rp)
      have hrow1 := (HR1.out.next0 b2 (Nat.le_trans hB HC1.out.size))
      obtain ⟨t, ht1, hfz⟩ : ∃ v, w1.cell? ⟨w.heap.size, k * 5 + 1, none⟩ = some v ∧ w1.frozen? ⟨w.heap.size, k * 5 + 1, none⟩ = false := by
        obtain ⟨ts, pb, h1, h2, h3, h4⟩ := hrow1
        have hl2 : ts.length = l.length := by rw [← h1, List.length_map]
        exact ⟨_, (h2.2.1 k (by omega)).2.1, h2.2.2 _⟩
      have HC2 := hide (HC1.out.trans (b2.mono HC1.out.size))
      clear hrow1 b2 rp HR1 HC1 HP
      go_wp2
      go_roundw
      case rel => exact ⟨k + 1, by omega, by go_num, by simpa using HR2, HC2.out.setCell (Nat.le_refl _) _⟩
      case measure => simp [intOf]; omega
    · have HD := hide (HR.out.done (by omega) (fun r hr => by have := (HS.out r hr).1; unfold maxLen; omega))
      go_wp2
      go_ret
      exact ⟨⟨_, rfl, Nat.le_refl _, HD.out⟩, hbe⟩
end Go.Proofs.Ytclnpfpaabmkcab
