/-
  What the program's NodeOk does: one's own parts, and how many there may still be.
-/
import Derived.Test.YtanebchmeaomgaaSpecNodeOk
import Derived.Test.YtanebchmeaomgaaBoxNode
import Derived.Test.YtanebchmeaomgaaPlain
import Derived.Test.YtanebchmeaomgaaSpecSmall
namespace Go.Proofs.Ytanebchmeaomgaa
open Go.RowKit M
set_option linter.unusedVariables false

set_option maxHeartbeats 4000000 in
theorem ownPartsOk_any (n : Nd) (a : Option Addr) (cap : Nat) (w : World) (q1 : n.ns.size ≤ maxLen) (q2 : n.nm.size ≤ maxLen) (q3 : n.tx.size ≤ maxLen) (q4 : n.ks.length ≤ maxLen) :
    Calls Try.prog 25 #[.agg #[.string n.ns, .string n.nm, .string n.tx, .slice a n.ks.length cap]] w fun e w' => e = .returned (.bool (ownN n)) ∧ Below w.heap.size w w' := by
  have HO := hide (@ownN_bad n)
  have HG := hide (@ownN_good n)
  have HX := hide (BoxN.made w a cap n 29)
  generalize ownN n = own at *
  obtain ⟨ra, rb, rc, ks⟩ := n
  simp only [Nd.ns, Nd.nm, Nd.tx, Nd.ks] at *
  have HB0 : Hid (Below w.heap.size w (w.alloc (Obj.cells #[Value.string ra, Value.string rb, Value.string rc, Value.slice a ks.length cap] 29))) := (Below.refl _ _).alloc (Nat.le_refl _) _
  have z1 := q1
  have z3 := q3
  have z4 := q4
  unfold maxLen at z1 z3 z4
  have hz0 : w.heap.size < (w.alloc (Obj.cells #[Value.string ra, Value.string rb, Value.string rc, Value.slice a ks.length cap] 29)).heap.size := by simp
  cases h4 : allB ra.data.toList [0]
  · have hr : own = false := HO.out (.inr (.inr (.inl h4)))
    subst hr
    clear HO HG
    go_enter Try.func25, Try.ntmps25
    go_wp2_with fail
    refine (plain_any ra _ q1).mono ?_
    rintro e w1 ⟨rfl, b1⟩
    rw [h4]
    have c1 := HB0.out.trans (b1.mono HB0.out.size)
    have X1 := hide (HX.out.next b1)
    have y10 := X1.out.c0
    have y11 := X1.out.c1
    have y12 := X1.out.c2
    have y13 := X1.out.c3
    simp only [Nd.ns, Nd.nm, Nd.tx, Nd.ks] at y10 y11 y12 y13
    clear b1
    go_wp2
    go_ret
    exact ⟨rfl, c1⟩
  by_cases h3 : 20 < ra.size
  · have hr : own = false := HO.out (.inr (.inl h3))
    subst hr
    clear HO HG
    go_enter Try.func25, Try.ntmps25
    go_wp2_with fail
    refine (plain_any ra _ q1).mono ?_
    rintro e w1 ⟨rfl, b1⟩
    rw [h4]
    have c1 := HB0.out.trans (b1.mono HB0.out.size)
    have X1 := hide (HX.out.next b1)
    have y10 := X1.out.c0
    have y11 := X1.out.c1
    have y12 := X1.out.c2
    have y13 := X1.out.c3
    simp only [Nd.ns, Nd.nm, Nd.tx, Nd.ks] at y10 y11 y12 y13
    clear b1
    go_wp2
    go_ret
    exact ⟨rfl, c1⟩
  cases h2 : smB rb.data.toList
  · have hr : own = false := HO.out (.inl h2)
    subst hr
    clear HO HG
    go_enter Try.func25, Try.ntmps25
    go_wp2_with fail
    refine (plain_any ra _ q1).mono ?_
    rintro e w1 ⟨rfl, b1⟩
    rw [h4]
    have c1 := HB0.out.trans (b1.mono HB0.out.size)
    have X1 := hide (HX.out.next b1)
    have y10 := X1.out.c0
    have y11 := X1.out.c1
    have y12 := X1.out.c2
    have y13 := X1.out.c3
    simp only [Nd.ns, Nd.nm, Nd.tx, Nd.ks] at y10 y11 y12 y13
    clear b1
    go_wp2_with fail
    refine (smallName_any rb _ q2).mono ?_
    rintro e w2 ⟨rfl, b2⟩
    rw [h2]
    have c2 := c1.trans (b2.mono c1.size)
    have X2 := hide (X1.out.next b2)
    have y20 := X2.out.c0
    have y21 := X2.out.c1
    have y22 := X2.out.c2
    have y23 := X2.out.c3
    simp only [Nd.ns, Nd.nm, Nd.tx, Nd.ks] at y20 y21 y22 y23
    clear b2
    clear y10 y11 y12 y13
    go_wp2
    go_ret
    exact ⟨rfl, c2⟩
  cases h6 : allB rc.data.toList [0]
  · have hr : own = false := HO.out (.inr (.inr (.inr (.inr (.inl h6)))))
    subst hr
    clear HO HG
    go_enter Try.func25, Try.ntmps25
    go_wp2_with fail
    refine (plain_any ra _ q1).mono ?_
    rintro e w1 ⟨rfl, b1⟩
    rw [h4]
    have c1 := HB0.out.trans (b1.mono HB0.out.size)
    have X1 := hide (HX.out.next b1)
    have y10 := X1.out.c0
    have y11 := X1.out.c1
    have y12 := X1.out.c2
    have y13 := X1.out.c3
    simp only [Nd.ns, Nd.nm, Nd.tx, Nd.ks] at y10 y11 y12 y13
    clear b1
    go_wp2_with fail
    refine (smallName_any rb _ q2).mono ?_
    rintro e w2 ⟨rfl, b2⟩
    rw [h2]
    have c2 := c1.trans (b2.mono c1.size)
    have X2 := hide (X1.out.next b2)
    have y20 := X2.out.c0
    have y21 := X2.out.c1
    have y22 := X2.out.c2
    have y23 := X2.out.c3
    simp only [Nd.ns, Nd.nm, Nd.tx, Nd.ks] at y20 y21 y22 y23
    clear b2
    clear y10 y11 y12 y13
    go_wp2_with fail
    refine (plain_any rc _ q3).mono ?_
    rintro e w3 ⟨rfl, b3⟩
    rw [h6]
    have c3 := c2.trans (b3.mono c2.size)
    have X3 := hide (X2.out.next b3)
    have y30 := X3.out.c0
    have y31 := X3.out.c1
    have y32 := X3.out.c2
    have y33 := X3.out.c3
    simp only [Nd.ns, Nd.nm, Nd.tx, Nd.ks] at y30 y31 y32 y33
    clear b3
    clear y20 y21 y22 y23
    go_wp2
    go_ret
    exact ⟨rfl, c3⟩
  by_cases h5 : 60 < rc.size
  · have hr : own = false := HO.out (.inr (.inr (.inr (.inl h5))))
    subst hr
    clear HO HG
    go_enter Try.func25, Try.ntmps25
    go_wp2_with fail
    refine (plain_any ra _ q1).mono ?_
    rintro e w1 ⟨rfl, b1⟩
    rw [h4]
    have c1 := HB0.out.trans (b1.mono HB0.out.size)
    have X1 := hide (HX.out.next b1)
    have y10 := X1.out.c0
    have y11 := X1.out.c1
    have y12 := X1.out.c2
    have y13 := X1.out.c3
    simp only [Nd.ns, Nd.nm, Nd.tx, Nd.ks] at y10 y11 y12 y13
    clear b1
    go_wp2_with fail
    refine (smallName_any rb _ q2).mono ?_
    rintro e w2 ⟨rfl, b2⟩
    rw [h2]
    have c2 := c1.trans (b2.mono c1.size)
    have X2 := hide (X1.out.next b2)
    have y20 := X2.out.c0
    have y21 := X2.out.c1
    have y22 := X2.out.c2
    have y23 := X2.out.c3
    simp only [Nd.ns, Nd.nm, Nd.tx, Nd.ks] at y20 y21 y22 y23
    clear b2
    clear y10 y11 y12 y13
    go_wp2_with fail
    refine (plain_any rc _ q3).mono ?_
    rintro e w3 ⟨rfl, b3⟩
    rw [h6]
    have c3 := c2.trans (b3.mono c2.size)
    have X3 := hide (X2.out.next b3)
    have y30 := X3.out.c0
    have y31 := X3.out.c1
    have y32 := X3.out.c2
    have y33 := X3.out.c3
    simp only [Nd.ns, Nd.nm, Nd.tx, Nd.ks] at y30 y31 y32 y33
    clear b3
    clear y20 y21 y22 y23
    go_wp2
    go_ret
    exact ⟨rfl, c3⟩
  by_cases h7 : rc.size = 0
  · have hr : own = true := HG.out h2 h3 h4 h5 h6 (.inl h7)
    subst hr
    have h8 := emptyT h7
    clear HO HG h7
    go_enter Try.func25, Try.ntmps25
    go_wp2_with fail
    refine (plain_any ra _ q1).mono ?_
    rintro e w1 ⟨rfl, b1⟩
    rw [h4]
    have c1 := HB0.out.trans (b1.mono HB0.out.size)
    have X1 := hide (HX.out.next b1)
    have y10 := X1.out.c0
    have y11 := X1.out.c1
    have y12 := X1.out.c2
    have y13 := X1.out.c3
    simp only [Nd.ns, Nd.nm, Nd.tx, Nd.ks] at y10 y11 y12 y13
    clear b1
    go_wp2_with fail
    refine (smallName_any rb _ q2).mono ?_
    rintro e w2 ⟨rfl, b2⟩
    rw [h2]
    have c2 := c1.trans (b2.mono c1.size)
    have X2 := hide (X1.out.next b2)
    have y20 := X2.out.c0
    have y21 := X2.out.c1
    have y22 := X2.out.c2
    have y23 := X2.out.c3
    simp only [Nd.ns, Nd.nm, Nd.tx, Nd.ks] at y20 y21 y22 y23
    clear b2
    clear y10 y11 y12 y13
    go_wp2_with fail
    refine (plain_any rc _ q3).mono ?_
    rintro e w3 ⟨rfl, b3⟩
    rw [h6]
    have c3 := c2.trans (b3.mono c2.size)
    have X3 := hide (X2.out.next b3)
    have y30 := X3.out.c0
    have y31 := X3.out.c1
    have y32 := X3.out.c2
    have y33 := X3.out.c3
    simp only [Nd.ns, Nd.nm, Nd.tx, Nd.ks] at y30 y31 y32 y33
    clear b3
    clear y20 y21 y22 y23
    go_wp2
    go_ret
    exact ⟨rfl, c3⟩
  by_cases h9 : 0 < ks.length
  · have hr : own = false := HO.out (.inr (.inr (.inr (.inr (.inr ⟨h7, h9⟩)))))
    subst hr
    have h8 := emptyF h7
    clear HO HG h7
    go_enter Try.func25, Try.ntmps25
    go_wp2_with fail
    refine (plain_any ra _ q1).mono ?_
    rintro e w1 ⟨rfl, b1⟩
    rw [h4]
    have c1 := HB0.out.trans (b1.mono HB0.out.size)
    have X1 := hide (HX.out.next b1)
    have y10 := X1.out.c0
    have y11 := X1.out.c1
    have y12 := X1.out.c2
    have y13 := X1.out.c3
    simp only [Nd.ns, Nd.nm, Nd.tx, Nd.ks] at y10 y11 y12 y13
    clear b1
    go_wp2_with fail
    refine (smallName_any rb _ q2).mono ?_
    rintro e w2 ⟨rfl, b2⟩
    rw [h2]
    have c2 := c1.trans (b2.mono c1.size)
    have X2 := hide (X1.out.next b2)
    have y20 := X2.out.c0
    have y21 := X2.out.c1
    have y22 := X2.out.c2
    have y23 := X2.out.c3
    simp only [Nd.ns, Nd.nm, Nd.tx, Nd.ks] at y20 y21 y22 y23
    clear b2
    clear y10 y11 y12 y13
    go_wp2_with fail
    refine (plain_any rc _ q3).mono ?_
    rintro e w3 ⟨rfl, b3⟩
    rw [h6]
    have c3 := c2.trans (b3.mono c2.size)
    have X3 := hide (X2.out.next b3)
    have y30 := X3.out.c0
    have y31 := X3.out.c1
    have y32 := X3.out.c2
    have y33 := X3.out.c3
    simp only [Nd.ns, Nd.nm, Nd.tx, Nd.ks] at y30 y31 y32 y33
    clear b3
    clear y20 y21 y22 y23
    go_wp2
    go_ret
    exact ⟨ret_bool (by rw [beq_eq_false_iff_ne]; omega), c3⟩
  have hr : own = true := HG.out h2 h3 h4 h5 h6 (.inr h9)
  subst hr
  have h8 := emptyF h7
  have h9' : Hid (ks.length = 0) := (by omega : ks.length = 0)
  clear HO HG h7 h9
  go_enter Try.func25, Try.ntmps25
  go_wp2_with fail
  refine (plain_any ra _ q1).mono ?_
  rintro e w1 ⟨rfl, b1⟩
  rw [h4]
  have c1 := HB0.out.trans (b1.mono HB0.out.size)
  have X1 := hide (HX.out.next b1)
  have y10 := X1.out.c0
  have y11 := X1.out.c1
  have y12 := X1.out.c2
  have y13 := X1.out.c3
  simp only [Nd.ns, Nd.nm, Nd.tx, Nd.ks] at y10 y11 y12 y13
  clear b1
  go_wp2_with fail
  refine (smallName_any rb _ q2).mono ?_
  rintro e w2 ⟨rfl, b2⟩
  rw [h2]
  have c2 := c1.trans (b2.mono c1.size)
  have X2 := hide (X1.out.next b2)
  have y20 := X2.out.c0
  have y21 := X2.out.c1
  have y22 := X2.out.c2
  have y23 := X2.out.c3
  simp only [Nd.ns, Nd.nm, Nd.tx, Nd.ks] at y20 y21 y22 y23
  clear b2
  clear y10 y11 y12 y13
  go_wp2_with fail
  refine (plain_any rc _ q3).mono ?_
  rintro e w3 ⟨rfl, b3⟩
  rw [h6]
  have c3 := c2.trans (b3.mono c2.size)
  have X3 := hide (X2.out.next b3)
  have y30 := X3.out.c0
  have y31 := X3.out.c1
  have y32 := X3.out.c2
  have y33 := X3.out.c3
  simp only [Nd.ns, Nd.nm, Nd.tx, Nd.ks] at y30 y31 y32 y33
  clear b3
  clear y20 y21 y22 y23
  go_wp2
  go_ret
  exact ⟨ret_bool (by simp [h9'.out]), c3⟩

/-- What is told of how many there may still be. -/
def nOut : Option Nat → Value
  | none => .tuple #[.int .i64 0, .bool false]
  | some x => .tuple #[.int .i64 (x : Int), .bool true]

def NOk (K : Nat) : Prop := ∀ (n : Nd) (a : Option Addr) (cap B d l : Nat) (w : World), cntL n.ks < K → Nds w B a n.ks → B ≤ w.heap.size → n.short → d ≤ 5 → l ≤ 20 →
    Calls Try.prog 18 #[.agg #[.string n.ns, .string n.nm, .string n.tx, .slice a n.ks.length cap], .int .i64 (d : Int), .int .i64 (l : Int)] w fun e w' => e = .returned (nOut (n.iS d l)) ∧ Below w.heap.size w w'

theorem iSL_le : ∀ (r : List Nd) (d l x : Nat), l ≤ 20 → iSL r d l = some x → x ≤ l := fun r d l x h e => by
  rw [iSL_cSL r d l 0 (by omega)] at e
  have := cSL_ge r d 0
  split at e
  · cases e; omega
  · cases e

set_option maxHeartbeats 4000000 in
theorem nodesOk_step (K : Nat) (ih : NOk K) : NOk (K + 1) := by
  intro n a cap B d l w hn h hB hs hd hl
  have hs' := hs
  rw [short_ks] at hs
  obtain ⟨q1, q2, q3, q4, q5⟩ := hs
  have HI : Hid (NOk K) := ih
  clear ih
  have HR : Hid ((d = 0 ∨ l = 0 ∨ ownN n = false) → n.iS d l = none) := fun h => by rw [iS_ks, if_pos h]
  have HC : Hid (¬ (d = 0 ∨ l = 0 ∨ ownN n = false) → iSL n.ks (d - 1) (l - 1) = n.iS d l) := fun h => by rw [iS_ks, if_neg h]
  have HX := hide (BoxN.made w a cap n 29)
  have hop := fun W : World => ownPartsOk_any n a cap W q1 q2 q3 q4
  have HOP := hide hop
  clear hop
  generalize n.iS d l = R at *
  generalize ownN n = own at *
  obtain ⟨ra, rb, rc, ks⟩ := n
  simp only [Nd.ns, Nd.nm, Nd.tx, Nd.ks] at *
  have HB0 : Hid (Below w.heap.size w (w.alloc (Obj.cells #[Value.string ra, Value.string rb, Value.string rc, Value.slice a ks.length cap] 29))) := (Below.refl _ _).alloc (Nat.le_refl _) _
  have HH := hide h
  clear h hs'
  have z4 := q4
  unfold maxLen at z4
  by_cases h1 : d = 0
  · have hr : R = none := HR.out (.inl h1)
    subst hr h1
    clear HR HC
    go_enter Try.func18, Try.ntmps18
    go_wp2
    refine bodyPost_ret (v := .tuple #[.int .i64 0, .bool false]) (by simp [results, Try.results18, go_sem]) rfl ⟨rfl, HB0.out⟩
  by_cases h2 : l = 0
  · have hr : R = none := HR.out (.inr (.inl h2))
    subst hr h2
    clear HR HC
    go_enter Try.func18, Try.ntmps18
    go_wp2
    refine bodyPost_ret (v := .tuple #[.int .i64 0, .bool false]) (by simp [results, Try.results18, go_sem]) rfl ⟨rfl, HB0.out⟩
  cases own with
  | false =>
    have hr : R = none := HR.out (.inr (.inr rfl))
    subst hr
    clear HR HC
    go_enter Try.func18, Try.ntmps18
    go_wp2_with fail
    refine (HOP.out _).mono ?_
    rintro e w1 ⟨rfl, b1⟩
    have c1 := HB0.out.trans (b1.mono HB0.out.size)
    go_wp2
    refine bodyPost_ret (v := .tuple #[.int .i64 0, .bool false]) (by simp [results, Try.results18, go_sem]) rfl ⟨rfl, c1⟩
  | true =>
    have HR2 := hide (HC.out (by simp [h1, h2]))
    clear HR HC
    have h1b : ((d : Int) == 0) = false := by simp; omega
    have h2b : ((l : Int) == 0) = false := by simp; omega
    go_enter Try.func18, Try.ntmps18
    go_wp2_with fail
    refine (HOP.out _).mono ?_
    rintro e w1 ⟨rfl, b1⟩
    have c1 := HB0.out.trans (b1.mono HB0.out.size)
    have y3 := (HX.out.next b1).c3
    simp only [Nd.ks] at y3
    go_wp2
    go_loopw [2, 8, 27] (fun lv ov i wr => ∃ j l' : Nat, j ≤ ks.length ∧ i = .int .i64 j ∧ lv = .int .i64 l' ∧ ov = .bool true ∧ iSL (ks.drop j) (d - 1) l' = R ∧ l' ≤ 20 ∧ Below w.heap.size w wr) (fun _ _ i _ => ks.length - (intOf i).toNat)
    case atStart => exact ⟨0, l - 1, Nat.zero_le _, rfl, by congr 1; omega, rfl, HR2.out, by omega, c1⟩
    case round =>
      obtain ⟨j, l', hj, rfl, rfl, rfl, hR, hl', hbe⟩ := hrel
      by_cases hlt : j < ks.length
      · rw [drop_at ks j hlt, iSL] at hR
        have HRR := hide hR
        clear hR
        obtain ⟨b, o, rfl, hb, hc⟩ := (HH.out.stays hbe hB).at (by omega)
        obtain ⟨ak, ck, hx0, hx1, hx2, hx3, hkx⟩ := hc j hlt
        clear hc
        have hcn : cntL (ks[j]).ks < K := by have := cntL_at ks j hlt; omega
        have hba := (Below.refl wr.heap.size wr).alloc (Nat.le_refl _) (Obj.cells #[.string (ks[j]).ns, .string (ks[j]).nm, .string (ks[j]).tx, .slice ak (ks[j]).ks.length ck] 29)
        have hq := HI.out ks[j] ak ck B (d - 1) l' _ hcn (hkx.stays hba (Nat.le_trans hB hbe.size)) (Nat.le_trans (Nat.le_trans hB hbe.size) hba.size) (shortK_at ks q5 j hlt) (by omega) hl'
        have hde : (((d - 1 : Nat)) : Int) = (d : Int) - 1 := by omega
        rw [hde] at hq
        clear hde
        have HLE : Hid (∀ x, (ks[j]).iS (d - 1) l' = some x → x ≤ 20) := fun x e => by
          have := iSL_le [ks[j]] (d - 1) l' x hl' (by rw [iSL, e]; rfl)
          omega
        have HBA := hide hba
        clear hba
        generalize (ks[j]).iS (d - 1) l' = r at *
        cases r with
        | none =>
          have hr := HRR.out
          simp only at hr
          subst hr
          go_wp2_with fail
          refine hq.mono ?_
          rintro e w2 ⟨rfl, hb2⟩
          have c2 := hbe.trans ((HBA.out.trans (hb2.mono HBA.out.size)).mono hbe.size)
          simp only [nOut]
          go_wp2
          refine bodyPost_ret (v := .tuple #[.int .i64 0, .bool false]) (by simp [results, Try.results18, go_sem]) rfl ⟨rfl, c2⟩
        | some x =>
          have hx20 := HLE.out x rfl
          go_wp2_with fail
          refine hq.mono ?_
          rintro e w2 ⟨rfl, hb2⟩
          have c2 := hbe.trans ((HBA.out.trans (hb2.mono HBA.out.size)).mono hbe.size)
          simp only [nOut]
          go_wp2
          go_roundw
          case rel => exact ⟨j + 1, x, by omega, by go_num, rfl, rfl, HRR.out, hx20, c2⟩
          case measure => simp [intOf]; omega
      · rw [List.drop_of_length_le (by omega), iSL] at hR
        subst hR
        go_wp2
        refine bodyPost_ret (v := .tuple #[.int .i64 (l' : Int), .bool true]) (by simp [results, Try.results18, go_sem]) rfl ⟨rfl, hbe⟩

theorem nodesOk_all : ∀ K, NOk K := by
  intro K
  induction K with
  | zero => intro n a cap B d l w hn; exact absurd hn (Nat.not_lt_zero _)
  | succ K ih => exact nodesOk_step K ih

theorem nodeOk_any (n : Nd) (a : Option Addr) (cap B : Nat) (w : World) (h : Nds w B a n.ks) (hB : B ≤ w.heap.size) (hs : n.short) :
    Calls Try.prog 9 #[.agg #[.string n.ns, .string n.nm, .string n.tx, .slice a n.ks.length cap]] w fun e w' => e = .returned (.bool (nodeB n)) ∧ Below w.heap.size w w' := by
  have hb0 : Below w.heap.size w (w.alloc (Obj.cells #[Value.string n.ns, Value.string n.nm, Value.string n.tx, Value.slice a n.ks.length cap] 29)) := (Below.refl _ _).alloc (Nat.le_refl _) _
  have hq := nodesOk_all (cntL n.ks + 1) n a cap B 5 20 _ (Nat.lt_succ_self _) (h.stays hb0 hB) (Nat.le_trans hB hb0.size) hs (by omega) (by omega)
  rw [← nodeB_iS]
  generalize n.iS 5 20 = c at *
  cases c with
  | none =>
    go_enter Try.func9, Try.ntmps9
    go_wp2_with fail
    refine hq.mono ?_
    rintro e w1 ⟨rfl, hb1⟩
    have c1 := hb0.trans (hb1.mono hb0.size)
    simp only [nOut]
    go_wp2
    go_ret
    exact ⟨rfl, c1⟩
  | some x =>
    go_enter Try.func9, Try.ntmps9
    go_wp2_with fail
    refine hq.mono ?_
    rintro e w1 ⟨rfl, hb1⟩
    have c1 := hb0.trans (hb1.mono hb0.size)
    simp only [nOut]
    go_wp2
    go_ret
    exact ⟨rfl, c1⟩
end Go.Proofs.Ytanebchmeaomgaa
