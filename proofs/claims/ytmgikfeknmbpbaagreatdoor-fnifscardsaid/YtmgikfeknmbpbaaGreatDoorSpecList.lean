/-
  What spec.l14List does.
-/
import Derived.Test.YtmgikfeknmbpbaaGreatDoorSpecCond
namespace Go.Proofs.YtmgikfeknmbpbaaGreatDoor
open Go.RowKit M
set_option linter.unusedVariables false

theorem infoCn : (Tryz.prog.info? 57).map (fun i => (i.zero, i.size, i.bytes)) = some (some (.agg #[.bool false, .int .i64 0, .string { data := #[] }]), 3, 32) := by kernel_rfl
theorem Turn.belowN {S : Nat → Prop} {a b c : World} (h : Turn S a b) (k : Below a.heap.size b c) : Turn S a c :=
  ⟨k.os.trans h.os, k.tape.trans h.tape, k.output.trans h.output, Nat.le_trans h.size k.size, fun i hi hS => (k.block i hi).trans (h.block i hi hS)⟩
theorem Turn.belowW {S : Nat → Prop} {a b c : World} (h : Turn S a b) (k : Below a.heap.size b c) : Turn S a c := h.belowN k
theorem Rd.nextB {w w' : World} {N a L : Nat} {s : ByteArray} {bad : Bool} (h : Rd w N s a bad) (hb : Below L w w') (hN : N < L) : Rd w' N s a bad :=
  ⟨Nat.lt_of_lt_of_le h.lt hb.size, fun k => (hb.frozen (p := ⟨N, k, none⟩) hN).trans (h.fz k), (hb.cell (p := ⟨N, 0, none⟩) hN).trans h.c0, (hb.cell (p := ⟨N, 1, none⟩) hN).trans h.c1, (hb.cell (p := ⟨N, 2, none⟩) hN).trans h.c2⟩
theorem OwnG.turnN {α : Type} {cs : α → List Value} {K : Nat} {tE : TypeId} {w w' : World} {B N g n c : Nat} {l : List α} (h : OwnG tE K cs w B (.slice (some ⟨g, 0, none⟩) n c) l) (t : Turn (At N) w w') (hN : N < B) : OwnG tE K cs w' B (.slice (some ⟨g, 0, none⟩) n c) l := by
  have hl := World.ownsRow.lt h g rfl
  exact h.keepB (t.block g hl.2 (fun e => by have : g = N := e; omega))

/-- On the way through one list. -/
def LInv (s : ByteArray) (a : Nat) (acc : List Cn) (a1 : Nat) (bad ag : Bool) : Prop :=
  (bad = true → listL (s.data.toList.drop a) = none) ∧ (bad = false → (s.data.toList.drop a).head? = some 40 ∧ (ag = true → condsL (s.data.toList.drop a).tail = (condsL (s.data.toList.drop a1)).map fun x => (acc ++ x.1, x.2)) ∧ (ag = false → condsL (s.data.toList.drop a).tail = some (acc, s.data.toList.drop a1)))
theorem LInv.start (s : ByteArray) (a : Nat) : LInv s a [] (isA s a false [40]) (!isZ s a false [40]) true := by
  unfold LInv
  rw [isA_false]
  unfold isZ
  rw [Bool.not_false, Bool.true_and, isPre_one]
  by_cases h : (s.data.toList.drop a).head? = some 40
  · rw [decide_eq_true h]
    refine ⟨fun e => (by cases e), fun _ => ⟨h, fun _ => ?_, fun e => (by cases e)⟩⟩
    simp only [if_true, List.length_cons, List.length_nil, List.nil_append, List.tail_drop]
    cases condsL (s.data.toList.drop (a + 1)) <;> rfl
  · rw [decide_eq_false h]
    refine ⟨fun _ => ?_, fun e => (by cases e)⟩
    unfold listL
    rw [if_neg h]
theorem LInv.no {s : ByteArray} {a a1 a2 : Nat} {acc acc2 : List Cn} (h : LInv s a acc a1 false true) (hc : condL (s.data.toList.drop a1) = none) (ag : Bool) : LInv s a acc2 a2 true ag := by
  refine ⟨fun _ => ?_, fun e => by cases e⟩
  obtain ⟨h1, h2, _⟩ := h.2 rfl
  unfold listL
  rw [if_pos h1, h2 rfl, condsL_none hc]
  rfl
theorem LInv.yes {s : ByteArray} {a a1 a2 : Nat} {acc : List Cn} {c : Cn} (h : LInv s a acc a1 false true) (hc : condL (s.data.toList.drop a1) = some (c, s.data.toList.drop a2)) : LInv s a (acc ++ [c]) (isA s a2 false [32]) false (isZ s a2 false [32]) := by
  obtain ⟨h1, h2, _⟩ := h.2 rfl
  have h3 := h2 rfl
  refine ⟨fun e => (by cases e), fun _ => ⟨h1, ?_, ?_⟩⟩
  all_goals
    rw [isA_false]
    unfold isZ
    rw [Bool.not_false, Bool.true_and, isPre_one]
    intro e
  · have hh : (s.data.toList.drop a2).head? = some 32 := by simpa using e
    rw [h3, condsL_next hc hh, decide_eq_true hh, List.tail_drop]
    simp only [if_true, List.length_cons, List.length_nil, Nat.zero_add]
    cases condsL (s.data.toList.drop (a2 + 1)) <;> simp
  · have hh : ¬ (s.data.toList.drop a2).head? = some 32 := by simpa using e
    rw [h3, condsL_end hc hh, decide_eq_false hh]
    simp
/-- What the reading of one list comes to. -/
def ListRet (s : ByteArray) (a N B : Nat) (e : Ending) (w' : World) : Prop :=
  ∃ g n c : Nat, e = .returned (.slice (some ⟨g, 0, none⟩) n c) ∧ match listL (s.data.toList.drop a) with
    | none => ∃ a', a' ≤ s.size ∧ Rd w' N s a' true
    | some (cs, q) => OwnG 57 3 ciC w' B (.slice (some ⟨g, 0, none⟩) n c) cs ∧ ∃ a', a' ≤ s.size ∧ s.data.toList.drop a' = q ∧ Rd w' N s a' false
theorem listRet {s : ByteArray} {a a1 N B g n c : Nat} {acc : List Cn} {bad ag : Bool} {w' : World} (h : LInv s a acc a1 bad ag) (hx : bad = true ∨ ag = false) (ha : a1 ≤ s.size) (ho : OwnG 57 3 ciC w' B (.slice (some ⟨g, 0, none⟩) n c) acc) (b2 : Bool) (hb : b2 = (!isZ s a1 bad [41] || decide (4 < acc.length))) (hr : Rd w' N s (isA s a1 bad [41]) b2) : ListRet s a N B (.returned (.slice (some ⟨g, 0, none⟩) n c)) w' := by
  refine ⟨g, n, c, rfl, ?_⟩
  cases bad
  · obtain ⟨h1, _, h3⟩ := h.2 rfl
    have hc := h3 (by rcases hx with e | e; cases e; exact e)
    have hL : listL (s.data.toList.drop a) = if b2 = true then none else some (acc, s.data.toList.drop (isA s a1 false [41])) := by
      unfold listL
      rw [if_pos h1, hc, hb, isA_false]
      unfold isZ
      rw [Bool.not_false, Bool.true_and, isPre_one]
      by_cases hh : (s.data.toList.drop a1).head? = some 41
      · by_cases h4 : acc.length ≤ 4
        · have : ¬ 4 < acc.length := by omega
          simp only [hh, h4, this, List.tail_drop]
          simp
        · have : 4 < acc.length := by omega
          simp only [h4, this]
          simp
      · rw [decide_eq_false hh]
        simp only [hh]
        simp
    rw [hL]
    cases b2
    · exact ⟨ho, _, isA_le ha, rfl, hr⟩
    · exact ⟨_, isA_le ha, hr⟩
  · rw [h.1 rfl]
    have : b2 = true := by rw [hb]; rfl
    subst this
    exact ⟨_, isA_le ha, hr⟩

set_option maxRecDepth 100000 in
set_option maxHeartbeats 8000000 in
theorem l14List_any (N : Nat) (s : ByteArray) (a : Nat) (w : World) (h : Rd w N s a false) (ha : a ≤ s.size) (hs : s.size ≤ 67108864) :
    Calls Tryz.prog 28 #[.pointer (some ⟨N, 0, none⟩)] w fun e w' => ListRet s a N w.heap.size e w' ∧ Turn (At N) w w' := by
  have hN := h.lt
  have bR := (Below.refl w.heap.size w).alloc (Nat.le_refl _) (Obj.cells #[] 57)
  have HO := hide (OwnG.made (tE := 57) (K := 3) (cs := ciC) w w.heap.size (Nat.le_refl _))
  have T0 := hide (Turn.of_below (S := At N) bR)
  have HQ1 := hide (l14Must_any N s ⟨#[40]⟩ [40] rfl a false _ (h.next bR) ha (by omega) (by decide))
  have HI0 := hide (LInv.start s a)
  have HC := hide (fun a1 W (h : Rd W N s a1 false) (h1 : a1 ≤ s.size) => l14Cond_any N s a1 W h h1 hs)
  have HIS := hide (fun a1 bad W (h : Rd W N s a1 bad) (h1 : a1 ≤ s.size) => l14Is_any N s ⟨#[32]⟩ [32] rfl a1 bad W h h1 (by omega) (by decide))
  have HMU := hide (fun a1 bad W (h : Rd W N s a1 bad) (h1 : a1 ≤ s.size) => l14Must_any N s ⟨#[41]⟩ [41] rfl a1 bad W h h1 (by omega) (by decide))
  have ha1 : isA s a false [40] ≤ s.size := isA_le ha
  obtain ⟨a1, hA1⟩ : ∃ z, isA s a false [40] = z := ⟨_, rfl⟩
  obtain ⟨b1, hB1⟩ : ∃ z, (!isZ s a false [40]) = z := ⟨_, rfl⟩
  rw [hA1, hB1] at HQ1 HI0
  rw [hA1] at ha1
  clear h bR hA1 hB1
  go_enter Tryz.func28, Tryz.ntmps28
  go_wp2_with fail
  refine HQ1.out.mono ?_
  rintro e w1 ⟨rfl, r1, t1⟩
  have R1 := hide r1
  have T1 := hide (T0.out.trans t1)
  have O1 := hide (HO.out.turnN t1 hN)
  clear r1 t1 T0 HO HQ1
  go_wp2
  go_loopw [3, 4] (fun v ag wr => ∃ (g n c a2 : Nat) (acc : List Cn) (bad agn : Bool), v = .slice (some ⟨g, 0, none⟩) n c ∧ ag = .bool agn ∧ a2 ≤ s.size ∧ acc.length ≤ 67108865 ∧ Hid (agn = true → acc.length ≤ a2) ∧ Hid (OwnG 57 3 ciC wr w.heap.size (.slice (some ⟨g, 0, none⟩) n c) acc) ∧ Hid (Rd wr N s a2 bad) ∧ Hid (LInv s a acc a2 bad agn) ∧ Hid (Turn (At N) w wr)) (fun _ ag wr => match ag with | .bool true => (match wr.cell? ⟨N, 1, none⟩ with | some (.int _ z) => 1 + (67108864 - z).toNat | _ => 0) | _ => 0)
  case atStart => exact ⟨_, _, _, a1, [], b1, true, rfl, rfl, ha1, Nat.zero_le _, fun _ => Nat.zero_le _, O1, R1, HI0, T1⟩
  case round =>
    obtain ⟨g, n, c, a2, acc, bad, agn, rfl, rfl, ha2, hal, HAL, HOW, HR, HI, HT⟩ := hrel
    have c2 := HR.out.c2
    by_cases hgo : agn = true ∧ bad = false
    · obtain ⟨rfl, rfl⟩ := hgo
      have HAL2 := HAL.out rfl
      have HQ := hide (HC.out a2 wr HR.out ha2)
      have c1 := HR.out.c1
      go_wp2_with fail
      refine HQ.out.mono ?_
      rintro e w2 ⟨hret, t2⟩
      unfold CondRet at hret
      have T2 := hide (HT.out.trans t2)
      have O2 := hide (HOW.out.turnN t2 hN)
      have hz2 : w.heap.size ≤ w2.heap.size := T2.out.size
      clear t2 HT HOW HQ HR c2
      cases hcd : condL (s.data.toList.drop a2) with
      | none =>
        rw [hcd] at hret
        obtain ⟨⟨x, rfl⟩, a3, ha3, r3⟩ := hret
        have HIN := hide (fun acc2 a4 => HI.out.no (acc2 := acc2) (a2 := a4) hcd false)
        clear hcd
        have bX := (Below.refl w2.heap.size w2).alloc (Nat.le_refl _) (Obj.cells #[.bool x.no, .int .i64 x.tk, .string x.tg] 57)
        have bY := bX.alloc (by simp) (Obj.cells #[.bool x.no, .int .i64 x.tk, .string x.tg] 57)
        have HO3 := hide (O2.out.next bY)
        have R3 := hide (r3.next bY)
        have T3 := hide (T2.out.trans (Turn.of_below bY))
        have hz3 := T3.out.size
        have hln : acc.length + 1 ≤ 100000000000 := by omega
        clear r3 bX bY O2 T2
        go_wp2_with (at_builtin; refine wp_append_gen 41 Tryz.underlying41 (.agg #[.bool false, .int .i64 0, .string { data := #[] }]) 32 infoCn rfl (by decide) (by decide) rfl _ _ rfl w.heap.size _ acc rfl HO3.out ciC_len _ x rfl (fun i v hv => by match i with | 0 => (cases hv; simp) | 1 => (cases hv; simp) | 2 => (cases hv; simp) | i + 3 => cases hv) (ciC_one x) hln hz3 ?_)
        intro g9 n9 c9 w9 hn9 hO9 hb9 hg9 _
        have O9 := hide hO9
        have R9 := hide (R3.out.nextB hb9 hN)
        have T9 := hide (T3.out.belowW hb9)
        have HQI := hide (HIS.out a3 true w9 R9.out ha3)
        clear hO9 hb9 hg9 hn9 HO3 R3 T3
        have hq1 : isZ s a3 true [32] = false := rfl
        have hq2 : isA s a3 true [32] = a3 := rfl
        rw [hq1, hq2] at HQI
        clear hq1 hq2
        go_wp2_with fail
        refine HQI.out.mono ?_
        rintro e w10 ⟨rfl, r10, t10⟩
        have R10 := hide r10
        have T10 := hide (T9.out.trans t10)
        have O10 := hide (O9.out.turnN t10 hN)
        clear r10 t10
        go_wp2
        go_roundw
        case rel => exact ⟨g9, n9, c9, a3, _, true, false, rfl, rfl, ha3, by simp; omega, fun e => (by cases e), O10, R10, HIN.out _ _, T10⟩
        case measure => simp [c1]; omega
      | some p =>
        obtain ⟨x, q⟩ := p
        rw [hcd] at hret
        obtain ⟨rfl, a3, ha3, hq, r3⟩ := hret
        have hlt3 : a2 < a3 := by
          have h1 := condL_len hcd
          rw [← hq, List.length_drop, List.length_drop] at h1
          omega
        rw [← hq] at hcd
        have HIN := hide (HI.out.yes hcd)
        clear hcd hq
        have bX := (Below.refl w2.heap.size w2).alloc (Nat.le_refl _) (Obj.cells #[.bool x.no, .int .i64 x.tk, .string x.tg] 57)
        have bY := bX.alloc (by simp) (Obj.cells #[.bool x.no, .int .i64 x.tk, .string x.tg] 57)
        have HO3 := hide (O2.out.next bY)
        have R3 := hide (r3.next bY)
        have T3 := hide (T2.out.trans (Turn.of_below bY))
        have hz3 := T3.out.size
        have hln : acc.length + 1 ≤ 100000000000 := by omega
        clear r3 bX bY O2 T2
        go_wp2_with (at_builtin; refine wp_append_gen 41 Tryz.underlying41 (.agg #[.bool false, .int .i64 0, .string { data := #[] }]) 32 infoCn rfl (by decide) (by decide) rfl _ _ rfl w.heap.size _ acc rfl HO3.out ciC_len _ x rfl (fun i v hv => by match i with | 0 => (cases hv; simp) | 1 => (cases hv; simp) | 2 => (cases hv; simp) | i + 3 => cases hv) (ciC_one x) hln hz3 ?_)
        intro g9 n9 c9 w9 hn9 hO9 hb9 hg9 _
        have O9 := hide hO9
        have R9 := hide (R3.out.nextB hb9 hN)
        have T9 := hide (T3.out.belowW hb9)
        have HQI := hide (HIS.out a3 false w9 R9.out ha3)
        clear hO9 hb9 hg9 hn9 HO3 R3 T3
        have ha4 : isA s a3 false [32] ≤ s.size := isA_le ha3
        have ha5 : a3 ≤ isA s a3 false [32] := by unfold isA; split <;> omega
        obtain ⟨a4, hA4⟩ : ∃ z, isA s a3 false [32] = z := ⟨_, rfl⟩
        obtain ⟨z4, hZ4⟩ : ∃ z, isZ s a3 false [32] = z := ⟨_, rfl⟩
        rw [hA4, hZ4] at HQI HIN
        rw [hA4] at ha4 ha5
        clear hA4 hZ4
        go_wp2_with fail
        refine HQI.out.mono ?_
        rintro e w10 ⟨rfl, r10, t10⟩
        have d1 := r10.c1
        have R10 := hide r10
        have T10 := hide (T9.out.trans t10)
        have O10 := hide (O9.out.turnN t10 hN)
        clear r10 t10
        go_wp2
        go_roundw
        case rel => exact ⟨g9, n9, c9, a4, _, false, z4, rfl, rfl, ha4, by simp; omega, fun _ => (by rw [List.length_append]; simp; omega), O10, R10, HIN.out, T10⟩
        case measure => cases z4 <;> simp [c1, d1] <;> omega
    · have HX := hide (show bad = true ∨ agn = false by cases agn <;> cases bad <;> simp at hgo ⊢)
      have HQ := hide (HMU.out a2 bad wr HR.out ha2)
      have HLR := hide (fun W (o : OwnG 57 3 ciC W w.heap.size (.slice (some ⟨g, 0, none⟩) n c) acc) b2 hb hr => listRet (N := N) HI.out HX.out ha2 o b2 hb hr)
      have hn : n = acc.length := (HOW.out.row ciC_len).1
      obtain ⟨b3, hb3⟩ : ∃ z, (!isZ s a2 bad [41]) = z := ⟨_, rfl⟩
      obtain ⟨a3, hA3⟩ : ∃ z, isA s a2 bad [41] = z := ⟨_, rfl⟩
      rw [hA3, hb3] at HQ HLR
      rw [← hn] at HLR
      have hnl : n ≤ 67108865 := by omega
      clear hA3 hb3 hn HC HIS HMU HI HAL hal
      cases agn
      · clear hgo HX
        go_wp2_with fail
        refine HQ.out.mono ?_
        rintro e w2 ⟨rfl, r2, t2⟩
        have n2 := r2.c2
        have f2 := r2.fz 2
        have R2 := hide r2
        have T2 := hide (HT.out.trans t2)
        have O2 := hide (HOW.out.turnN t2 hN)
        clear r2 t2 HQ HT HOW HR
        cases b3
        · by_cases h4 : 4 < n
          · have h5 : (4 : Int) < (n : Int) := by omega
            have HD := hide (show true = (false || decide (4 < n)) by rw [decide_eq_true h4]; rfl)
            clear h4
            go_wp2
            go_ret
            have T3 := T2.out.trans (Turn.set w2 ⟨N, 2, none⟩ (.bool true) rfl)
            exact ⟨HLR.out _ (O2.out.turnN (Turn.set w2 ⟨N, 2, none⟩ (.bool true) rfl) hN) true HD.out (R2.out.turned true), T3⟩
          · have h5 : ¬ (4 : Int) < (n : Int) := by omega
            have HD := hide (show false = (false || decide (4 < n)) by rw [decide_eq_false h4]; rfl)
            clear h4
            go_wp2
            go_ret
            rw [show decide ((4 : Int) < (n : Int)) = false from decide_eq_false (by omega)]
            have T3 := T2.out.trans (Turn.set w2 ⟨N, 2, none⟩ (.bool false) rfl)
            exact ⟨HLR.out _ (O2.out.turnN (Turn.set w2 ⟨N, 2, none⟩ (.bool false) rfl) hN) false HD.out (R2.out.turned false), T3⟩
        · have HD := hide (show true = (true || decide (4 < n)) by rfl)
          go_wp2
          go_ret
          have T3 := T2.out.trans (Turn.set w2 ⟨N, 2, none⟩ (.bool true) rfl)
          exact ⟨HLR.out _ (O2.out.turnN (Turn.set w2 ⟨N, 2, none⟩ (.bool true) rfl) hN) true HD.out (R2.out.turned true), T3⟩
      · cases bad
        · exact absurd ⟨rfl, rfl⟩ hgo
        · clear hgo HX
          go_wp2_with fail
          refine HQ.out.mono ?_
          rintro e w2 ⟨rfl, r2, t2⟩
          have n2 := r2.c2
          have f2 := r2.fz 2
          have R2 := hide r2
          have T2 := hide (HT.out.trans t2)
          have O2 := hide (HOW.out.turnN t2 hN)
          clear r2 t2 HQ HT HOW HR
          cases b3
          · by_cases h4 : 4 < n
            · have h5 : (4 : Int) < (n : Int) := by omega
              have HD := hide (show true = (false || decide (4 < n)) by rw [decide_eq_true h4]; rfl)
              clear h4
              go_wp2
              go_ret
              have T3 := T2.out.trans (Turn.set w2 ⟨N, 2, none⟩ (.bool true) rfl)
              exact ⟨HLR.out _ (O2.out.turnN (Turn.set w2 ⟨N, 2, none⟩ (.bool true) rfl) hN) true HD.out (R2.out.turned true), T3⟩
            · have h5 : ¬ (4 : Int) < (n : Int) := by omega
              have HD := hide (show false = (false || decide (4 < n)) by rw [decide_eq_false h4]; rfl)
              clear h4
              go_wp2
              go_ret
              rw [show decide ((4 : Int) < (n : Int)) = false from decide_eq_false (by omega)]
              have T3 := T2.out.trans (Turn.set w2 ⟨N, 2, none⟩ (.bool false) rfl)
              exact ⟨HLR.out _ (O2.out.turnN (Turn.set w2 ⟨N, 2, none⟩ (.bool false) rfl) hN) false HD.out (R2.out.turned false), T3⟩
          · have HD := hide (show true = (true || decide (4 < n)) by rfl)
            go_wp2
            go_ret
            have T3 := T2.out.trans (Turn.set w2 ⟨N, 2, none⟩ (.bool true) rfl)
            exact ⟨HLR.out _ (O2.out.turnN (Turn.set w2 ⟨N, 2, none⟩ (.bool true) rfl) hN) true HD.out (R2.out.turned true), T3⟩
end Go.Proofs.YtmgikfeknmbpbaaGreatDoor
