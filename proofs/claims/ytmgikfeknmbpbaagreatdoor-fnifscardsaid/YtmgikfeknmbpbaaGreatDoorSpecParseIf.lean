/-
  What spec.ParseIf does.
-/
import Derived.Test.YtmgikfeknmbpbaaGreatDoorSpecList
namespace Go.Proofs.YtmgikfeknmbpbaaGreatDoor
open Go.RowKit M
set_option linter.unusedVariables false

theorem less_at (a : Nat) (h : a ≤ 67108864) : ((67108865 : Int) - ((a + 1 : Nat) : Int)).toNat < ((67108865 : Int) - (a : Int)).toNat := by omega
theorem infoSl : (Tryz.prog.info? 41).map (fun i => (i.zero, i.size, i.bytes)) = some (some (.slice none 0 0), 1, 24) := by kernel_rfl
theorem RowsO.turn {tS : TypeId} {w w' : World} {B g n c H N : Nat} {ss : List Sl} {ls : List (List Cn)} (h : RowsO tS w B g n c H ss ls) (t : Turn (At N) w w') (hN : N < B) : RowsO tS w' B g n c H ss ls := by
  obtain ⟨lo, hi, h5⟩ := h.bl
  exact ⟨h.own.turnN t hN, h.len, Nat.le_trans h.top t.size, h.gH, lo, hi, fun j hj hs => ⟨(h5 j hj hs).1.turn t (fun y hy e => by have h1 := (h5 j hj hs).2.1; have h2 := hy.1; have h3 : y = N := e; omega), (h5 j hj hs).2⟩⟩
theorem listRet_flat {s : ByteArray} {a N B : Nat} {e : Ending} {w' : World} (h : ListRet s a N B e w') :
    ∃ (g n c a2 : Nat) (bad : Bool) (cs : List Cn), e = .returned (.slice (some ⟨g, 0, none⟩) n c) ∧ a2 ≤ s.size ∧ Rd w' N s a2 bad ∧ (bad = true → listL (s.data.toList.drop a) = none) ∧ (bad = false → listL (s.data.toList.drop a) = some (cs, s.data.toList.drop a2) ∧ OwnG 57 3 ciC w' B (.slice (some ⟨g, 0, none⟩) n c) cs) := by
  obtain ⟨g, n, c, he, h2⟩ := h
  cases hl : listL (s.data.toList.drop a) with
  | none =>
    rw [hl] at h2
    obtain ⟨a', h3, h4⟩ := h2
    exact ⟨g, n, c, a', true, [], he, h3, h4, fun _ => rfl, fun e => (by cases e)⟩
  | some p =>
    obtain ⟨cs, q⟩ := p
    rw [hl] at h2
    obtain ⟨ho, a', h3, h4, h5⟩ := h2
    exact ⟨g, n, c, a', false, cs, he, h3, h5, fun e => (by cases e), fun _ => ⟨by rw [h4], ho⟩⟩

/-- On the way through several lists. -/
def PInv (s : ByteArray) (ls : List (List Cn)) (a1 : Nat) (bad ag : Bool) : Prop :=
  (bad = true → ifL s.data.toList = none) ∧ (bad = false → (ag = true → listsL s.data.toList = (listsL (s.data.toList.drop a1)).map (ls ++ ·)) ∧ (ag = false → listsL s.data.toList = some ls))
theorem PInv.start (s : ByteArray) : PInv s [] 0 false true := by
  refine ⟨fun e => (by cases e), fun _ => ⟨fun _ => ?_, fun e => (by cases e)⟩⟩
  rw [List.drop_zero]
  cases listsL s.data.toList <;> rfl
/-- A list is read, and blanks behind it are passed. -/
def BInv (s : ByteArray) (a2 a3 : Nat) (b2 b3 : Bool) : Prop := (b2 = true → b3 = true) ∧ (b3 = false → blk (s.data.toList.drop a2) = blk (s.data.toList.drop a3)) ∧ (b3 = true → b2 = true ∨ blk (s.data.toList.drop a2) = [])
theorem blk_next {s : ByteArray} {a : Nat} (h : [32].isPrefixOf (s.data.toList.drop a) = true) : blk (s.data.toList.drop a) = blk (s.data.toList.drop (a + 1)) := by
  rw [isPre_one] at h
  have h2 : (s.data.toList.drop a).head? = some 32 := by simpa using h
  have e : s.data.toList.drop (a + 1) = (s.data.toList.drop a).tail := by rw [List.tail_drop]
  rw [e]
  cases hl : s.data.toList.drop a with
  | nil => rfl
  | cons c r =>
    rw [hl] at h2
    cases h2
    unfold blk
    rw [List.dropWhile_cons, if_pos (by decide)]
    rfl
theorem blk_stop {s : ByteArray} {a : Nat} (h : [32].isPrefixOf (s.data.toList.drop a) = false) : blk (s.data.toList.drop a) = s.data.toList.drop a := by
  rw [isPre_one] at h
  have h2 : ¬ (s.data.toList.drop a).head? = some 32 := by simpa using h
  cases hl : s.data.toList.drop a with
  | nil => rfl
  | cons c r =>
    rw [hl] at h2
    unfold blk
    rw [List.dropWhile_cons, if_neg]
    simpa using h2
theorem drop_all (s : ByteArray) : s.data.toList.drop s.size = [] := List.drop_of_length_le (by rw [Array.length_toList]; exact Nat.le_refl _)
theorem BInv.next {s : ByteArray} {a2 a3 : Nat} {b2 : Bool} (h : BInv s a2 a3 b2 false) (hp : [32].isPrefixOf (s.data.toList.drop a3) = true) : BInv s a2 (a3 + 1) b2 (decide (a3 + 1 = s.size)) := by
  have hb : b2 = false := by cases b2; rfl; exact absurd (h.1 rfl) (by simp)
  subst hb
  have e := (h.2.1 rfl).trans (blk_next hp)
  refine ⟨fun e => (by cases e), fun _ => e, fun h2 => .inr ?_⟩
  have : a3 + 1 = s.size := by simpa using h2
  rw [e, this, drop_all]
  rfl
theorem ifL_bad {s : ByteArray} (h : listsL s.data.toList = none) : ifL s.data.toList = none := by unfold ifL; rw [h]; rfl
/-- Behind one list. -/
theorem PInv.step {s : ByteArray} {ls : List (List Cn)} {a1 a2 a3 : Nat} {cs : List Cn} {b2 b3 : Bool} (h : PInv s ls a1 false true) (h1 : b2 = true → listL (s.data.toList.drop a1) = none) (h2 : b2 = false → listL (s.data.toList.drop a1) = some (cs, s.data.toList.drop a2)) (ha : a2 < s.size) (hb : BInv s a2 a3 b2 b3) (hs : isZ s a3 b3 [32] = false) :
    PInv s (ls ++ [cs]) a3 b3 true := by
  have h3 := (h.2 rfl).1 rfl
  have hq : s.data.toList.drop a2 ≠ [] := fun e => by
    have := congrArg List.length e
    rw [List.length_drop, Array.length_toList] at this
    simp at this
    have : s.data.size = s.size := rfl
    omega
  refine ⟨fun e => ?_, fun e => ⟨fun _ => ?_, fun e2 => (by cases e2)⟩⟩
  · apply ifL_bad
    rw [h3]
    rcases hb.2.2 e with e2 | e2
    · rw [listsL_none (h1 e2)]; rfl
    · cases b2
      · rw [listsL_next (h2 rfl) hq, e2, listsL_none rfl]; rfl
      · rw [listsL_none (h1 rfl)]; rfl
  · subst e
    have e2 : b2 = false := by cases b2; rfl; exact absurd (hb.1 rfl) (by simp)
    subst e2
    unfold isZ at hs
    rw [h3, listsL_next (h2 rfl) hq, hb.2.1 rfl, blk_stop (by simpa using hs)]
    cases listsL (s.data.toList.drop a3) <;> simp
theorem PInv.last {s : ByteArray} {ls : List (List Cn)} {a1 a2 : Nat} {cs : List Cn} {b2 : Bool} (h : PInv s ls a1 false true) (h1 : b2 = true → listL (s.data.toList.drop a1) = none) (h2 : b2 = false → listL (s.data.toList.drop a1) = some (cs, s.data.toList.drop a2)) (ha : a2 = s.size) :
    PInv s (ls ++ [cs]) a2 b2 false := by
  have h3 := (h.2 rfl).1 rfl
  refine ⟨fun e => ?_, fun e => ⟨fun e2 => (by cases e2), fun _ => ?_⟩⟩
  · apply ifL_bad
    rw [h3, listsL_none (h1 e)]
    rfl
  · have h4 := h2 e
    rw [ha, drop_all] at h4
    rw [h3, listsL_end h4]
    rfl
/-- What is answered. -/
def IfRet (s : ByteArray) (B : Nat) (e : Ending) (w' : World) : Prop :=
  ∃ r : Value, e = .returned (.tuple #[r, .bool (ifL s.data.toList).isSome]) ∧ Own w' r (.l (((ifL s.data.toList).getD []).map dCs)) (IvG B w'.heap.size)

set_option maxRecDepth 100000 in
set_option maxHeartbeats 16000000 in
theorem specParseIf_any (s : ByteArray) (w : World) (hs : s.size ≤ 67108864) :
    Calls Tryz.prog 9 #[.string s] w fun e w' => IfRet s w.heap.size e w' ∧ Below w.heap.size w w' := by
  have b0 := (Below.refl w.heap.size w).alloc (Nat.le_refl _) (Obj.cells #[.string s, .int .i64 0, .bool false] 52)
  have R0 := Rd.made w s 0 false 52
  have hz0 : (w.alloc (Obj.cells #[.string s, .int .i64 0, .bool false] 52)).heap.size = w.heap.size + 1 := by simp
  have HR0 := hide (R0.next ((Below.refl _ _).alloc (Nat.le_refl _) (Obj.cells #[] 41)))
  have HB0 := hide (b0.alloc (by simp) (Obj.cells #[] 41))
  have HO0 := RowsO.made 41 (w.alloc (Obj.cells #[.string s, .int .i64 0, .bool false] 52)) (w.heap.size + 1) (by rw [hz0]; exact Nat.le_refl _)
  rw [hz0] at HO0
  replace HO0 := hide HO0
  have HL := hide (fun a1 W (h : Rd W w.heap.size s a1 false) (h1 : a1 ≤ s.size) => l14List_any w.heap.size s a1 W h h1 hs)
  have HIS := hide (fun a1 bad W (h : Rd W w.heap.size s a1 bad) (h1 : a1 ≤ s.size) => l14Is_any w.heap.size s ⟨#[32]⟩ [32] rfl a1 bad W h h1 (by omega) (by decide))
  have HP0 := hide (PInv.start s)
  clear b0 R0 hz0
  go_enter Tryz.func9, Tryz.ntmps9
  go_wp2
  go_loopw [5, 6] (fun v ag wr => ∃ (g n c H a1 : Nat) (ss : List Sl) (ls : List (List Cn)) (bad agn : Bool), v = .slice (some ⟨g, 0, none⟩) n c ∧ ag = .bool agn ∧ a1 ≤ s.size ∧ ss.length ≤ 67108865 ∧ Hid (agn = true → bad = false → ss.length ≤ a1) ∧ Hid (OwnG 41 1 ciS wr (w.heap.size + 1) (.slice (some ⟨g, 0, none⟩) n c) ss) ∧ Hid (bad = false → RowsO 41 wr (w.heap.size + 1) g n c H ss ls) ∧ Hid (Rd wr w.heap.size s a1 bad) ∧ Hid (PInv s ls a1 bad agn) ∧ Hid (Below w.heap.size w wr)) (fun _ ag wr => match ag with | .bool true => (match wr.cell? ⟨w.heap.size, 2, none⟩, wr.cell? ⟨w.heap.size, 1, none⟩ with | some (.bool false), some (.int _ z) => 1 + (67108864 - z).toNat | _, _ => 0) | _ => 0)
  case atStart => exact ⟨_, _, _, _, 0, [], [], false, true, rfl, rfl, Nat.zero_le _, Nat.zero_le _, fun _ _ => Nat.zero_le _, HO0.out.own, fun _ => HO0.out, HR0, HP0, HB0⟩
  case round =>
    obtain ⟨g, n, c, H, a1, ss, ls, bad, agn, rfl, rfl, ha1, hal, HAL, HOW, HRO, HR, HI, HB⟩ := hrel
    have c2 := HR.out.c2
    by_cases hgo : agn = true ∧ bad = false
    · obtain ⟨rfl, rfl⟩ := hgo
      have HAL2 := HAL.out rfl rfl
      have HRO2 := hide (HRO.out rfl)
      have HQ := hide (HL.out a1 wr HR.out ha1)
      have c1 := HR.out.c1
      have c0 := HR.out.c0
      have hNw := HR.out.lt
      go_wp2_with fail
      refine HQ.out.mono ?_
      rintro e w2 ⟨hret, t2⟩
      obtain ⟨g2, n2, c3, a2, b2, cs, rfl, ha2, r2, hf1, hf2⟩ := listRet_flat hret
      have HF1 := hide hf1
      have HF2 := hide hf2
      have B2 := hide (HB.out.trans (t2.below (C := w.heap.size) (fun y hy => by have : y = w.heap.size := hy; omega) (Nat.le_of_lt hNw)))
      have O2 := hide (HOW.out.turnN t2 (Nat.lt_succ_self _))
      have P2 := hide (HRO2.out.turn t2 (Nat.lt_succ_self _))
      have hzt := t2.size
      have bY := (Below.refl w2.heap.size w2).alloc (Nat.le_refl _) (Obj.cells #[.slice (some ⟨g2, 0, none⟩) n2 c3] 41)
      have HO3 := hide (O2.out.next bY)
      have P3 := hide (P2.out.next bY)
      have R3 := hide (r2.next bY)
      have B3 := hide (B2.out.trans (bY.mono B2.out.size))
      have hz3 := bY.size
      have hN3 := R3.out.lt
      have HNL := hide (fun e => And.intro ((HF2.out e).1) ((own_of_conds ((HF2.out e).2.next bY)).wide (T := IvG wr.heap.size w2.heap.size) (fun y hy => by have hr := (HF2.out e).2.row ciC_len; subst hy; exact ⟨hr.2.2.2.1, hr.2.2.2.2.1⟩)))
      have hln : ss.length + 1 ≤ 100000000000 := by omega
      have HTOP := hide HRO2.out.top
      have HLT := hide (fun (e : b2 = false) => show a1 < a2 by
        have h1 := listL_len ((HF2.out e).1)
        rw [List.length_drop, List.length_drop] at h1
        omega)
      clear hret t2 HB HOW HRO HRO2 HQ HR hf1 hf2 r2 B2 O2 P2 bY HF2
      go_wp2_with (at_builtin; refine wp_append_gen 24 Tryz.underlying24 (.slice none 0 0) 24 infoSl rfl (by decide) (by decide) rfl _ _ rfl (w.heap.size + 1) _ ss rfl HO3.out ciS_len _ (⟨g2, n2, c3⟩ : Sl) rfl (fun i v hv => by match i with | 0 => (cases hv; simp [Sl.v]) | i + 1 => cases hv) (ciS_one _) hln hN3 ?_)
      intro g9 n9 c9 w9 hn9 hO9 hb9 hg9 hat
      have O9 := hide hO9
      have R9 := hide (R3.out.nextB hb9 (Nat.lt_succ_self _))
      have B9 := hide (B3.out.trans (hb9.mono (Nat.le_succ _)))
      have HNX := hide (fun (e : b2 = false) => P3.out.snoc hO9 hg9 (by rcases hat with e2 | e2; exact .inl (Option.some.inj e2).symm; exact .inr (by rw [e2]; simp)) wr.heap.size w2.heap.size (HNL.out e).2 HTOP.out hz3)
      have HL2 := hide (fun (e : b2 = false) => (HNL.out e).1)
      have d1 := R9.out.c1
      have hN9 := R9.out.lt
      have d0 := R9.out.c0
      have hssl : (ss ++ [(⟨g2, n2, c3⟩ : Sl)]).length = ss.length + 1 := by simp
      obtain ⟨ss2, hss2⟩ : ∃ z, ss ++ [(⟨g2, n2, c3⟩ : Sl)] = z := ⟨_, rfl⟩
      rw [hss2] at O9 HNX hssl
      have HSL := hide hssl
      clear hO9 hb9 hg9 hat hn9 HO3 P3 R3 B3 HNL HTOP hss2 hssl
      by_cases hend : a2 < s.size
      · have he1 : (a2 : Int) < (s.size : Int) := by omega
        go_wp2
        go_loopw [] (fun wr => ∃ (a3 : Nat) (b3 : Bool), a2 ≤ a3 ∧ a3 ≤ s.size ∧ Hid (Turn (At w.heap.size) w9 wr) ∧ Hid (Rd wr w.heap.size s a3 b3) ∧ Hid (BInv s a2 a3 b2 b3)) (fun wr => match wr.cell? ⟨w.heap.size, 1, none⟩ with | some (.int _ z) => (67108865 - z).toNat | _ => 0)
        case atStart => exact ⟨a2, b2, Nat.le_refl _, ha2, Turn.refl _ _, R9, ⟨id, fun _ => rfl, fun e => .inl e⟩⟩
        case round =>
          obtain ⟨a3, b3, h23, h3s, HT3, HR3, HBI⟩ := hrel
          have HQ := hide (HIS.out a3 b3 wr HR3.out h3s)
          have e1 := HR3.out.c1
          have e2 := HR3.out.c2
          have hz31 : isZ s a3 b3 [32] = true → b3 = false ∧ isA s a3 b3 [32] = a3 + 1 ∧ [32].isPrefixOf (s.data.toList.drop a3) = true ∧ a3 + 1 ≤ s.size := fun e => by
            have hA := isA_le (bad := b3) (p := [32]) h3s
            unfold isA at hA ⊢
            rw [e, if_pos rfl] at hA
            rw [e, if_pos rfl]
            unfold isZ at e
            simp only [Bool.and_eq_true, Bool.not_eq_true'] at e
            exact ⟨e.1, rfl, e.2, hA⟩
          have HZ1 := hide hz31
          clear hz31
          cases hz : isZ s a3 b3 [32]
          · have HS := hide (HI.out.step (cs := cs) HF1.out HL2.out hend HBI.out hz)
            rw [hz, show isA s a3 b3 [32] = a3 by unfold isA; rw [hz]; rfl] at HQ
            clear hz
            go_wp2_with fail
            refine HQ.out.mono ?_
            rintro e w10 ⟨rfl, r10, t10⟩
            have R10 := hide r10
            have T10 := hide (HT3.out.trans t10)
            have O10 := hide (O9.out.turnN T10.out (Nat.lt_succ_self _))
            have P10 := hide (fun e => (HNX.out e).turn T10.out (Nat.lt_succ_self _))
            have B10 := hide (B9.out.trans (T10.out.below (C := w.heap.size) (fun y hy => by have : y = w.heap.size := hy; omega) (Nat.le_of_lt hN9)))
            have f1 := r10.c1
            have f2 := r10.c2
            have HBI2 := hide (show b3 = false → b2 = false from fun e => by
              cases hb : b2 with
              | false => rfl
              | true =>
                have h6 := HBI.out.1 hb
                rw [e] at h6
                cases h6)
            clear r10 t10 HQ e1 e2 HR3 HT3
            go_wp2
            go_roundw
            case rel => exact ⟨g9, n9, c9, w9.heap.size, a3, ss2, ls ++ [cs], b3, true, rfl, rfl, h3s, by have := HSL.out; omega, fun _ e => (by have := HSL.out; have := HLT.out (HBI2.out e); omega), O10, fun e => P10.out (HBI2.out e), R10, HS, B10⟩
            case measure =>
              rw [f1, f2, c1, c2]
              cases b3
              · have := HLT.out (HBI2.out rfl)
                simp
                omega
              · simp
                try omega
          · obtain ⟨hb3, hA, hp, h3n⟩ := HZ1.out hz
            subst hb3
            rw [hz, hA] at HQ
            have HBN := hide (HBI.out.next hp)
            clear hz hA hp HZ1
            go_wp2_with fail
            refine HQ.out.mono ?_
            rintro e w10 ⟨rfl, r10, t10⟩
            have f0 := r10.c0
            have f1 := r10.c1
            have f2 := r10.c2
            have f3 := r10.fz 2
            have T11 := hide ((HT3.out.trans t10).trans (Turn.set w10 ⟨w.heap.size, 2, none⟩ (.bool (decide (a3 + 1 = s.size))) rfl))
            have R11 := hide (r10.turned (decide (a3 + 1 = s.size)))
            have k1 := R11.out.c1
            clear r10 t10 HQ e2 HR3 HT3
            by_cases hl : a3 + 1 = s.size
            · have hl1 : ((a3 : Int) + 1 == (s.size : Int)) = true := by rw [beq_iff_eq]; omega
              rw [decide_eq_true hl] at T11 R11 HBN k1
              clear hl
              go_wp2
              go_roundw
              case rel => exact ⟨a3 + 1, true, by omega, h3n, T11, R11, HBN⟩
              case measure => rw [e1, k1]; exact less_at a3 (by omega)
            · have hl1 : ((a3 : Int) + 1 == (s.size : Int)) = false := by rw [beq_eq_false_iff_ne]; omega
              rw [decide_eq_false hl] at T11 R11 HBN k1
              clear hl
              go_wp2
              go_roundw
              case rel => exact ⟨a3 + 1, false, by omega, h3n, T11, R11, HBN⟩
              case measure => rw [e1, k1]; exact less_at a3 (by omega)
      · have he1 : ¬ (a2 : Int) < (s.size : Int) := by omega
        have HS := hide (HI.out.last (cs := cs) HF1.out HL2.out (by omega))
        go_wp2
        go_loopw [] (fun wr => wr = w9) (fun _ => 0)
        case atStart => rfl
        case round =>
          subst hrel
          go_wp2
          go_roundw
          case rel => exact ⟨g9, n9, c9, wr.heap.size, a2, ss2, ls ++ [cs], b2, false, rfl, rfl, ha2, by have := HSL.out; omega, fun e => (by cases e), O9, HNX.out, R9, HS, B9⟩
          case measure => rw [c1, c2]; simp; omega
    · have HX := hide (show bad = false → agn = false from fun e => by cases agn; rfl; exact absurd ⟨rfl, e⟩ hgo)
      have hn : n = ss.length ∧ n ≤ c ∧ c ≤ maxLen := ⟨(HOW.out.row ciS_len).1, (HOW.out.row ciS_len).2.1, (HOW.out.row ciS_len).2.2.1⟩
      have hnl : n ≤ 67108865 := by omega
      have c1 := HR.out.c1
      cases hif : ifL s.data.toList with
      | none =>
        have hret : ∀ W : World, Below w.heap.size w W → IfRet s w.heap.size (.returned (.tuple #[.slice (some ⟨W.heap.size, 0, none⟩) 0 0, .bool false])) (W.alloc (Obj.cells #[] 41)) := fun W hW => ⟨_, by rw [hif]; rfl, by rw [hif]; exact (RowsO.made 41 W w.heap.size hW.size).done⟩
        have HRET := hide (hret wr HB.out)
        have HBB := hide (HB.out.alloc HB.out.size (Obj.cells #[] 41))
        have hcnd : bad = true ∨ 4 < n := by
          cases hb : bad with
          | true => exact .inl rfl
          | false =>
            right
            have h1 := (HI.out.2 hb).2 (HX.out hb)
            have h2 := (HRO.out hb).num.1
            unfold ifL at hif
            rw [h1] at hif
            simp only [Option.bind_some] at hif
            split at hif
            · cases hif
            · omega
        clear hret hif hgo HI HRO HAL
        cases bad
        · have h4 : (4 : Int) < (n : Int) := by rcases hcnd with e | e; cases e; omega
          clear hcnd
          cases agn
          · go_wp2
            go_ret2
            exact ⟨HRET.out, HBB.out⟩
          · exact absurd (HX.out rfl) (by simp)
        · clear hcnd
          cases agn
          · go_wp2
            go_ret2
            exact ⟨HRET.out, HBB.out⟩
          · go_wp2
            go_ret2
            exact ⟨HRET.out, HBB.out⟩
      | some ls2 =>
        have hb : bad = false := by
          cases hb : bad with
          | false => rfl
          | true => rw [HI.out.1 hb] at hif; cases hif
        subst hb
        have ha : agn = false := HX.out rfl
        subst ha
        have h1 := (HI.out.2 rfl).2 rfl
        have h2 := (HRO.out rfl).num.1
        have h3 : ls.length ≤ 4 ∧ ls2 = ls := by
          unfold ifL at hif
          rw [h1] at hif
          simp only [Option.bind_some] at hif
          split at hif
          · rename_i h4; exact ⟨h4, (Option.some.inj hif).symm⟩
          · cases hif
        have h4 : ¬ (4 : Int) < (n : Int) := by omega
        have HRET := hide (show IfRet s w.heap.size (.returned (.tuple #[.slice (some ⟨g, 0, none⟩) n c, .bool true])) wr from ⟨_, by rw [hif]; rfl, by rw [hif]; show Own wr _ (.l (ls2.map dCs)) _; rw [h3.2]; exact ((HRO.out rfl).done).wide (fun y hy => ⟨by have := hy.1; omega, hy.2⟩)⟩)
        clear h1 h2 h3 hif hgo HI HRO HAL hn
        go_wp2
        go_ret2
        exact ⟨HRET.out, HB.out⟩
end Go.Proofs.YtmgikfeknmbpbaaGreatDoor
