/-
  What the specification's NodeOk does: it counts, up to where something is not right.
-/
import Derived.Test.YtanebchmeaomgaaNodes
import Derived.Test.YtanebchmeaomgaaSpecPl
import Derived.Test.YtanebchmeaomgaaSpecSm
namespace Go.Proofs.Ytanebchmeaomgaa
open Go.RowKit M
set_option linter.unusedVariables false

theorem emptyT {s : ByteArray} (h : s.size = 0) : s.toList.isEmpty = true := by
  rw [ByteArray.toList_eq, List.eq_nil_of_length_eq_zero (show s.data.toList.length = 0 by rw [Array.length_toList]; exact h)]; rfl
theorem emptyF {s : ByteArray} (h : ¬ s.size = 0) : s.toList.isEmpty = false := by
  rw [ByteArray.toList_eq]
  cases e : s.data.toList with
  | nil => exact absurd (show s.data.size = 0 by rw [← Array.length_toList, e]; rfl) h
  | cons a b => rfl
theorem ownN_bad {n : Nd} (h : smB n.nm.data.toList = false ∨ 20 < n.ns.size ∨ allB n.ns.data.toList [0] = false ∨ 60 < n.tx.size ∨ allB n.tx.data.toList [0] = false ∨ (¬ n.tx.size = 0 ∧ 0 < n.ks.length)) : ownN n = false := by
  unfold ownN
  rcases h with h | h | h | h | h | ⟨h, h'⟩
  · simp [h]
  · have : ¬ n.ns.size ≤ 20 := by omega
    simp [this]
  · simp [h]
  · have : ¬ n.tx.size ≤ 60 := by omega
    simp [this]
  · simp [h]
  · have : ¬ n.ks.length = 0 := by omega
    simp [h, this]
theorem ownN_good {n : Nd} (h1 : smB n.nm.data.toList = true) (h2 : ¬ 20 < n.ns.size) (h3 : allB n.ns.data.toList [0] = true) (h4 : ¬ 60 < n.tx.size) (h5 : allB n.tx.data.toList [0] = true) (h6 : n.tx.size = 0 ∨ ¬ 0 < n.ks.length) : ownN n = true := by
  unfold ownN
  have a : n.ns.size ≤ 20 := by omega
  have b : n.tx.size ≤ 60 := by omega
  rcases h6 with h6 | h6
  · simp [h1, h3, h5, a, h6]
  · have c : n.ks.length = 0 := by omega
    simp [h1, h3, h5, a, b, c]

def CntA (K : Nat) : Prop := ∀ (n : Nd) (a : Option Addr) (cap B d : Nat) (w : World), cntL n.ks < K → Nds w B a n.ks → B ≤ w.heap.size → n.short → d ≤ 5 →
    Calls Try.prog 16 #[.agg #[.string n.ns, .string n.nm, .string n.tx, .slice a n.ks.length cap], .int .i64 (6 - (d : Int))] w fun e w' => e = .returned (.int .i64 ((n.cS d : Nat) : Int)) ∧ Below w.heap.size w w'

set_option maxHeartbeats 4000000 in
theorem l8Count_step (K : Nat) (ih : CntA K) : CntA (K + 1) := by
  intro n a cap B d w hn h hB hs hd
  rw [short_ks] at hs
  obtain ⟨q1, q2, q3, q4, q5⟩ := hs
  have HI : Hid (CntA K) := ih
  clear ih
  have HR : Hid ((d = 0 ∨ ownN n = false) → n.cS d = 100) := fun h => by rw [cS_ks, if_pos h]
  have HC : Hid (¬ (d = 0 ∨ ownN n = false) → cSL n.ks (d - 1) 1 = n.cS d) := fun h => by rw [cS_ks, if_neg h]
  have HO := hide (@ownN_bad n)
  have HG := hide (@ownN_good n)
  generalize n.cS d = R at *
  generalize ownN n = own at *
  obtain ⟨ra, rb, rc, ks⟩ := n
  simp only [Nd.ns, Nd.nm, Nd.tx, Nd.ks] at *
  have HB0 : Hid (Below w.heap.size w (w.alloc (Obj.cells #[Value.string ra, Value.string rb, Value.string rc, Value.slice a ks.length cap] 29))) := (Below.refl _ _).alloc (Nat.le_refl _) _
  have HH := hide h
  clear h
  have z1 := q1
  have z3 := q3
  have z4 := q4
  unfold maxLen at z1 z3 z4
  by_cases h1 : d = 0
  · have hr : R = 100 := HR.out (.inl h1)
    subst hr h1
    clear HR HC HO HG
    go_enter Try.func16, Try.ntmps16
    go_wp2
    go_ret
    exact ⟨rfl, HB0.out⟩
  have HN := hide h1
  cases h2 : smB rb.data.toList
  · have hr : R = 100 := HR.out (.inr (HO.out (.inl h2)))
    subst hr
    clear HR HC
    go_enter Try.func16, Try.ntmps16
    go_wp2_with (first | (go_at_call 23; refine (specSmallName_any rb _ q2).mono ?_; rintro e w1 ⟨rfl, hw⟩; obtain rfl := hw.symm; rw [h2]))
    go_ret
    exact ⟨rfl, HB0.out⟩
  by_cases h3 : 20 < ra.size
  · have hr : R = 100 := HR.out (.inr (HO.out (.inr (.inl h3))))
    subst hr
    clear HR HC
    go_enter Try.func16, Try.ntmps16
    go_wp2_with (first | (go_at_call 23; refine (specSmallName_any rb _ q2).mono ?_; rintro e w1 ⟨rfl, hw⟩; obtain rfl := hw.symm; rw [h2]))
    go_ret
    exact ⟨rfl, HB0.out⟩
  cases h4 : allB ra.data.toList [0]
  · have hr : R = 100 := HR.out (.inr (HO.out (.inr (.inr (.inl h4)))))
    subst hr
    clear HR HC
    go_enter Try.func16, Try.ntmps16
    go_wp2_with (first | (go_at_call 23; refine (specSmallName_any rb _ q2).mono ?_; rintro e w1 ⟨rfl, hw⟩; obtain rfl := hw.symm; rw [h2]) | (go_at_call 24; refine (specPlain_any _ _ (by first | exact q1 | exact q3)).mono ?_; rintro e w1 ⟨rfl, hw⟩; obtain rfl := hw.symm; rw [h4]))
    go_ret
    exact ⟨rfl, HB0.out⟩
  by_cases h5 : 60 < rc.size
  · have hr : R = 100 := HR.out (.inr (HO.out (.inr (.inr (.inr (.inl h5))))))
    subst hr
    clear HR HC
    go_enter Try.func16, Try.ntmps16
    go_wp2_with (first | (go_at_call 23; refine (specSmallName_any rb _ q2).mono ?_; rintro e w1 ⟨rfl, hw⟩; obtain rfl := hw.symm; rw [h2]) | (go_at_call 24; refine (specPlain_any _ _ (by first | exact q1 | exact q3)).mono ?_; rintro e w1 ⟨rfl, hw⟩; obtain rfl := hw.symm; rw [h4]))
    go_ret
    exact ⟨rfl, HB0.out⟩
  cases h6 : allB rc.data.toList [0]
  · have hr : R = 100 := HR.out (.inr (HO.out (.inr (.inr (.inr (.inr (.inl h6)))))))
    subst hr
    clear HR HC
    go_enter Try.func16, Try.ntmps16
    go_wp2_with (first | (go_at_call 23; refine (specSmallName_any rb _ q2).mono ?_; rintro e w1 ⟨rfl, hw⟩; obtain rfl := hw.symm; rw [h2]) | (go_at_call 24; refine (specPlain_any _ _ (by first | exact q1 | exact q3)).mono ?_; rintro e w1 ⟨rfl, hw⟩; obtain rfl := hw.symm; first | rw [h4] | rw [h6]))
    go_ret
    exact ⟨rfl, HB0.out⟩
  by_cases h7 : ¬ rc.size = 0 ∧ 0 < ks.length
  · have h8 := emptyF h7.1
    have h9 := h7.2
    have hr : R = 100 := HR.out (.inr (HO.out (.inr (.inr (.inr (.inr (.inr h7)))))))
    subst hr
    clear HR HC
    go_enter Try.func16, Try.ntmps16
    go_wp2_with (first | (go_at_call 23; refine (specSmallName_any rb _ q2).mono ?_; rintro e w1 ⟨rfl, hw⟩; obtain rfl := hw.symm; rw [h2]) | (go_at_call 24; refine (specPlain_any _ _ (by first | exact q1 | exact q3)).mono ?_; rintro e w1 ⟨rfl, hw⟩; obtain rfl := hw.symm; first | rw [h4] | rw [h6]))
    go_ret
    exact ⟨rfl, HB0.out⟩
  have h7' : rc.size = 0 ∨ ¬ 0 < ks.length := by omega
  have hown : ¬ (d = 0 ∨ own = false) := by rw [HG.out h2 h3 h4 h5 h6 h7']; simp [HN.out]
  have HR2 := hide (HC.out hown)
  clear HC HR HO HG hown h7
  have HL : Hid (1 ≤ d) := by have := HN.out; exact (show 1 ≤ d by omega)
  have HW := hide (HH.out.stays HB0.out hB)
  have hcl : rc.toList.isEmpty = true ∨ (rc.toList.isEmpty = false ∧ ks.length = 0) := by
    by_cases e : rc.size = 0
    · exact .inl (emptyT e)
    · exact .inr ⟨emptyF e, by omega⟩
  clear h7'
  rcases hcl with h8 | ⟨h8, h9⟩
  · go_enter Try.func16, Try.ntmps16
    go_wp2_with (first | (go_at_call 23; refine (specSmallName_any rb _ q2).mono ?_; rintro e w1 ⟨rfl, hw⟩; obtain rfl := hw.symm; rw [h2]) | (go_at_call 24; refine (specPlain_any _ _ (by first | exact q1 | exact q3)).mono ?_; rintro e w1 ⟨rfl, hw⟩; obtain rfl := hw.symm; first | rw [h4] | rw [h6]))
    go_loopw [5, 6] (fun kv i wr => ∃ j k : Nat, j ≤ ks.length ∧ i = .int .i64 j ∧ kv = .int .i64 k ∧ cSL (ks.drop j) (d - 1) k = R ∧ k ≤ 220 ∧ Below (w.heap.size + 1) (w.alloc (Obj.cells #[Value.string ra, Value.string rb, Value.string rc, Value.slice a ks.length cap] 29)) wr) (fun _ i _ => ks.length - (intOf i).toNat)
    case atStart => exact ⟨0, 1, Nat.zero_le _, rfl, rfl, HR2.out, by omega, Below.refl _ _⟩
    case round =>
      obtain ⟨j, k, hj, rfl, rfl, hR, hk, hbe⟩ := hrel
      have hcell : wr.cell? ⟨w.heap.size, 3, none⟩ = some (.slice a ks.length cap) := by
        rw [hbe.cell (p := ⟨w.heap.size, 3, none⟩) (by simp)]; simp
      have hsz : w.heap.size + 1 ≤ wr.heap.size := by have := hbe.size; simpa using this
      have c0 : Below w.heap.size w wr := HB0.out.trans (hbe.mono (by omega))
      by_cases hlt : j < ks.length
      · rw [drop_at ks j hlt, cSL] at hR
        by_cases hk2 : k ≤ 20
        · rw [if_pos hk2] at hR
          have HRR := hide hR
          clear hR
          obtain ⟨b, o, rfl, hb, hc⟩ := (HH.out.stays c0 hB).at (by omega)
          obtain ⟨ak, ck, hx0, hx1, hx2, hx3, hkx⟩ := hc j hlt
          clear hc
          have hcn : cntL (ks[j]).ks < K := by have := cntL_at ks j hlt; omega
          have hl1 := hide (cS_le ks[j] (d - 1))
          have hq := HI.out ks[j] ak ck B (d - 1) wr hcn hkx (Nat.le_trans hB c0.size) (shortK_at ks q5 j hlt) (by omega)
          have hde : (6 - ((d - 1 : Nat) : Int)) = 6 - (d : Int) + 1 := by have := HL.out; omega
          rw [hde] at hq
          clear hde
          generalize (ks[j]).cS (d - 1) = c at *
          go_wp2_with fail
          refine hq.mono ?_
          rintro e w1 ⟨rfl, hb1⟩
          have c1 : Below (w.heap.size + 1) _ w1 := hbe.trans (hb1.mono hsz)
          have hc2 : c ≤ 200 := by have := hl1.out; omega
          go_wp2
          go_roundw
          case rel => exact ⟨j + 1, k + c, by omega, by go_num, by go_num, HRR.out, by omega, c1⟩
          case measure => simp [intOf]; omega
        · rw [if_neg hk2] at hR
          subst hR
          go_wp2
          go_ret
          exact ⟨rfl, c0⟩
      · rw [List.drop_of_length_le (by omega), cSL] at hR
        subst hR
        go_wp2
        go_ret
        exact ⟨rfl, c0⟩
  · have hks : ks = [] := List.eq_nil_of_length_eq_zero h9
    subst hks
    have hR : R = 1 := by have := HR2.out; simpa [cSL] using this.symm
    subst hR
    simp only [List.length_nil] at HB0 HW ⊢
    clear h9 z4 q4
    go_enter Try.func16, Try.ntmps16
    go_wp2_with (first | (go_at_call 23; refine (specSmallName_any rb _ q2).mono ?_; rintro e w1 ⟨rfl, hw⟩; obtain rfl := hw.symm; rw [h2]) | (go_at_call 24; refine (specPlain_any _ _ (by first | exact q1 | exact q3)).mono ?_; rintro e w1 ⟨rfl, hw⟩; obtain rfl := hw.symm; first | rw [h4] | rw [h6]))
    go_loopw [5, 6] (fun kv i wr => i = .int .i64 0 ∧ kv = .int .i64 1 ∧ Below (w.heap.size + 1) (w.alloc (Obj.cells #[Value.string ra, Value.string rb, Value.string rc, Value.slice a 0 cap] 29)) wr) (fun _ _ _ => 0)
    case atStart => exact ⟨rfl, rfl, Below.refl _ _⟩
    case round =>
      obtain ⟨rfl, rfl, hbe⟩ := hrel
      have hcell : wr.cell? ⟨w.heap.size, 3, none⟩ = some (.slice a 0 cap) := by
        rw [hbe.cell (p := ⟨w.heap.size, 3, none⟩) (by simp)]; simp
      have c0 : Below w.heap.size w wr := HB0.out.trans (hbe.mono (by omega))
      go_wp2
      go_ret
      exact ⟨rfl, c0⟩

theorem l8Count_all : ∀ K, CntA K := by
  intro K
  induction K with
  | zero => intro n a cap B d w hn; exact absurd hn (Nat.not_lt_zero _)
  | succ K ih => exact l8Count_step K ih

theorem specNodeOk_any (n : Nd) (a : Option Addr) (cap B : Nat) (w : World) (h : Nds w B a n.ks) (hB : B ≤ w.heap.size) (hs : n.short) :
    Calls Try.prog 7 #[.agg #[.string n.ns, .string n.nm, .string n.tx, .slice a n.ks.length cap]] w fun e w' => e = .returned (.bool (nodeB n)) ∧ Below w.heap.size w w' := by
  have hb0 : Below w.heap.size w (w.alloc (Obj.cells #[Value.string n.ns, Value.string n.nm, Value.string n.tx, Value.slice a n.ks.length cap] 29)) := (Below.refl _ _).alloc (Nat.le_refl _) _
  have hq := l8Count_all (cntL n.ks + 1) n a cap B 5 _ (Nat.lt_succ_self _) (h.stays hb0 hB) (Nat.le_trans hB hb0.size) hs (by omega)
  have e1 : (6 - ((5 : Nat) : Int)) = 1 := by decide
  rw [e1] at hq
  have hle := cS_le n 5
  unfold nodeB
  generalize n.cS 5 = c at *
  by_cases hc : c ≤ 20
  · go_enter Try.func7, Try.ntmps7
    go_wp2_with fail
    refine hq.mono ?_
    rintro e w1 ⟨rfl, hb1⟩
    have c1 := hb0.trans (hb1.mono hb0.size)
    go_wp2
    go_ret
    exact ⟨by simp [hc]; omega, c1⟩
  · go_enter Try.func7, Try.ntmps7
    go_wp2_with fail
    refine hq.mono ?_
    rintro e w1 ⟨rfl, hb1⟩
    have c1 := hb0.trans (hb1.mono hb0.size)
    go_wp2
    go_ret
    exact ⟨by simp [hc]; omega, c1⟩

end Go.Proofs.Ytanebchmeaomgaa
