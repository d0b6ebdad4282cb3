/-
  What (impl.turn).goesTooDeep and (impl.turn).hasLongBody do.
-/
import Derived.Test.YtclnpfpaabmkcaaGreatSpecPathOk
import Derived.Test.YtclnpfpaabmkcaaGreatMathOrder
namespace Go.Proofs.YtclnpfpaabmkcaaGreat
open Go.RowKit M
set_option linter.unusedVariables false

def badP (r : Rs) : Bool := !pathB r.pa
def longP (r : Rs) : Bool := decide (200 < r.bo.size)
theorem any_at {rs : List Rs} {q : Rs → Bool} (k : Nat) (hk : k < rs.length) (h : q rs[k] = true) : rs.any q = true := List.any_eq_true.2 ⟨_, List.getElem_mem hk, h⟩
theorem any_none {rs : List Rs} {q : Rs → Bool} (h : ∀ j (hj : j < rs.length), q rs[j] = false) : rs.any q = false := by
  rw [List.any_eq_false]
  intro r hr
  obtain ⟨j, hj, rfl⟩ := List.mem_iff_getElem.1 hr
  rw [h j hj]; simp

set_option maxHeartbeats 1000000 in
theorem goesDeep1_any (r : Rs) (pa : Option Addr) (pc : Nat) (qa : Option Addr) (qc B : Nat) (w : World) (h : RsIn w B r pa pc qa qc) (hs : ShortRs r) (hB : B ≤ w.heap.size) :
    Calls Tryz.prog 153 #[.agg #[.slice pa r.pa.length pc, .bool r.co, .string r.bo, .int .i64 r.ve, .slice qa r.ps.length qc]] w fun e w' => e = .returned (.bool (badP r)) ∧ Below w.heap.size w w' := by
  have p1 := h.ph
  have s1 := hs.ps
  have l1 := hs.pl
  clear h hs
  have HZ := hide (show badP r = !pathB r.pa from rfl)
  obtain ⟨ss, co, bo, ve, ps⟩ := r
  simp only at *
  have hb0 : Below w.heap.size w (w.alloc (Obj.cells #[.slice pa ss.length pc, .bool co, .string bo, .int .i64 ve, .slice qa ps.length qc] 35)) := (Below.refl _ _).alloc (Nat.le_refl _) _
  have HE := hide (pathOk_any pa ss pc _ ((p1.below hb0 hB).mono (by simp; omega)) s1 l1)
  have HB0 := hide hb0
  generalize badP ⟨ss, co, bo, ve, ps⟩ = z at *
  generalize pathB ss = y at *
  clear p1 hb0
  go_enter Tryz.func153, Tryz.ntmps153
  go_wp2_with fail
  refine HE.out.mono ?_
  rintro e w1 ⟨rfl, hb1⟩
  have HC1 := hide (HB0.out.trans (hb1.mono HB0.out.size))
  clear hb1
  go_wp2
  go_ret
  exact ⟨by rw [HZ.out]; rfl, HC1.out⟩

set_option maxHeartbeats 1000000 in
theorem longBody1_any (r : Rs) (pa : Option Addr) (pc : Nat) (qa : Option Addr) (qc B : Nat) (w : World) (h : RsIn w B r pa pc qa qc) (hs : ShortRs r) (hB : B ≤ w.heap.size) :
    Calls Tryz.prog 154 #[.agg #[.slice pa r.pa.length pc, .bool r.co, .string r.bo, .int .i64 r.ve, .slice qa r.ps.length qc]] w fun e w' => e = .returned (.bool (longP r)) ∧ Below w.heap.size w w' := by
  have hbo := hs.bo
  clear h hs
  have HZ := hide (show longP r = decide (200 < r.bo.size) from rfl)
  obtain ⟨ss, co, bo, ve, ps⟩ := r
  simp only at *
  have hb0 : Below w.heap.size w (w.alloc (Obj.cells #[.slice pa ss.length pc, .bool co, .string bo, .int .i64 ve, .slice qa ps.length qc] 35)) := (Below.refl _ _).alloc (Nat.le_refl _) _
  have HB0 := hide hb0
  generalize longP ⟨ss, co, bo, ve, ps⟩ = z at *
  clear hb0
  by_cases hd : 200 < bo.size
  · have e0 : decide ((200 : Int) < (bo.size : Int)) = true := by simp; omega
    have HZ' := hide (HZ.out.trans (decide_eq_true hd))
    clear HZ
    go_enter Tryz.func154, Tryz.ntmps154
    go_wp2
    go_ret
    exact ⟨by rw [HZ'.out]; first | rfl | simp [hd], HB0.out⟩
  · have e0 : decide ((200 : Int) < (bo.size : Int)) = false := by simp; omega
    have HZ' := hide (HZ.out.trans (decide_eq_false hd))
    clear HZ
    go_enter Tryz.func154, Tryz.ntmps154
    go_wp2
    go_ret
    exact ⟨by rw [HZ'.out]; first | rfl | simp [hd], HB0.out⟩

set_option maxHeartbeats 1000000 in
theorem goesDeepI_any (a : Option Addr) (rs : List Rs) (cap B : Nat) (w : World) (h : Rss w B a rs) (hs : ShortT rs) (hl : rs.length ≤ maxLen) (hB : B ≤ w.heap.size) :
    Calls Tryz.prog 67 #[.slice a rs.length cap, .func (.func 153) #[] #[]] w fun e w' => (∃ x : Int, e = .returned (.int .i64 x) ∧ decide (0 ≤ x) = rs.any badP) ∧ Below w.heap.size w w' := by
  unfold maxLen at hl
  have HSH := hide hs
  clear hs
  go_enter Tryz.func67, Tryz.ntmps67
  go_wp2
  go_loopw [8] (fun i wr => ∃ k : Nat, k ≤ rs.length ∧ i = .int .i64 k ∧ (∀ j (hj : j < rs.length), j < k → badP rs[j] = false) ∧ Below w.heap.size w wr) (fun i _ => rs.length - (intOf i).toNat)
  case atStart => exact ⟨0, Nat.zero_le _, rfl, fun j _ hj => absurd hj (Nat.not_lt_zero _), Below.refl _ _⟩
  case round =>
    obtain ⟨k, hk, rfl, ht, hbe⟩ := hrel
    have HT := hide ht
    clear ht
    by_cases hlt : k < rs.length
    · obtain ⟨b, o, rfl, hb, hcc⟩ := (h.below hbe hB) (by omega)
      obtain ⟨pa, pc, qa, qc, ⟨hc0, hc1, hc2, hc3, hc4⟩, hin⟩ := hcc k hlt
      clear hcc
      have HC := hide (goesDeep1_any rs[k] pa pc qa qc B wr hin (HSH.out.at k hlt) (Nat.le_trans hB hbe.size))
      obtain ⟨z, hz⟩ : ∃ z, badP rs[k] = z := ⟨_, rfl⟩
      rw [hz] at HC
      have HZ := hide hz
      clear hz hin
      go_wp2_with fail
      refine HC.out.mono ?_
      rintro e w1 ⟨rfl, hb1⟩
      have c1 := hbe.trans (hb1.mono hbe.size)
      clear HC
      cases z
      · go_wp2
        go_roundw
        case rel => exact ⟨k + 1, by omega, by go_num, fun j hj hjk => by
                      by_cases e : j = k
                      · subst e; exact HZ.out
                      · exact HT.out j hj (by omega), c1⟩
        case measure => simp [intOf]; omega
      · go_wp2
        go_ret
        exact ⟨⟨_, rfl, by rw [any_at k hlt HZ.out]; simp⟩, c1⟩
    · have HE := hide (any_none (rs := rs) (q := badP) (fun j hj => HT.out j hj (by omega)))
      go_wp2
      go_ret
      exact ⟨⟨_, rfl, by rw [HE.out]; rfl⟩, hbe⟩

set_option maxHeartbeats 1000000 in
theorem goesDeepC_any (a : Option Addr) (rs : List Rs) (cap B : Nat) (w : World) (h : Rss w B a rs) (hs : ShortT rs) (hl : rs.length ≤ maxLen) (hB : B ≤ w.heap.size) :
    Calls Tryz.prog 152 #[.slice a rs.length cap, .func (.func 153) #[] #[]] w fun e w' => e = .returned (.bool (rs.any badP)) ∧ Below w.heap.size w w' := by
  have HE := hide (goesDeepI_any a rs cap B w h hs hl hB)
  generalize rs.any badP = z at *
  go_enter Tryz.func152, Tryz.ntmps152
  go_wp2_with fail
  refine HE.out.mono ?_
  rintro e w1 ⟨⟨x, rfl, hx⟩, hb1⟩
  have HX := hide hx
  clear hx HE
  go_wp2
  go_ret
  exact ⟨by rw [← HX.out]; rfl, hb1⟩

set_option maxHeartbeats 1000000 in
theorem goesDeep_any (a b s c : Option Addr) (na nb ns cap capb caps capc : Nat) (cs : List Rs) (B : Nat) (w : World) (h : Rss w B c cs) (hs : ShortT cs) (hl : cs.length ≤ maxLen) (hB : B ≤ w.heap.size) :
    Calls Tryz.prog 137 #[.agg #[.slice a na cap, .slice b nb capb, .slice s ns caps, .slice c cs.length capc]] w fun e w' => e = .returned (.bool (cs.any badP)) ∧ Below w.heap.size w w' := by
  have hb0 := (Below.refl w.heap.size w).alloc (Nat.le_refl _) (Obj.cells #[.slice a na cap, .slice b nb capb, .slice s ns caps, .slice c cs.length capc] 75)
  have HE := hide (goesDeepC_any c cs capc B _ (h.below hb0 hB) hs hl (by simp; omega))
  have HB0 := hide hb0
  generalize cs.any badP = z at *
  clear hb0
  go_enter Tryz.func137, Tryz.ntmps137
  go_wp2_with fail
  refine HE.out.mono ?_
  rintro e w1 ⟨rfl, hb1⟩
  have c1 := HB0.out.trans (hb1.mono HB0.out.size)
  clear hb1 HE
  go_wp2
  go_ret
  exact ⟨rfl, c1⟩

set_option maxHeartbeats 1000000 in
theorem longBodyI_any (a : Option Addr) (rs : List Rs) (cap B : Nat) (w : World) (h : Rss w B a rs) (hs : ShortT rs) (hl : rs.length ≤ maxLen) (hB : B ≤ w.heap.size) :
    Calls Tryz.prog 67 #[.slice a rs.length cap, .func (.func 154) #[] #[]] w fun e w' => (∃ x : Int, e = .returned (.int .i64 x) ∧ decide (0 ≤ x) = rs.any longP) ∧ Below w.heap.size w w' := by
  unfold maxLen at hl
  have HSH := hide hs
  clear hs
  go_enter Tryz.func67, Tryz.ntmps67
  go_wp2
  go_loopw [8] (fun i wr => ∃ k : Nat, k ≤ rs.length ∧ i = .int .i64 k ∧ (∀ j (hj : j < rs.length), j < k → longP rs[j] = false) ∧ Below w.heap.size w wr) (fun i _ => rs.length - (intOf i).toNat)
  case atStart => exact ⟨0, Nat.zero_le _, rfl, fun j _ hj => absurd hj (Nat.not_lt_zero _), Below.refl _ _⟩
  case round =>
    obtain ⟨k, hk, rfl, ht, hbe⟩ := hrel
    have HT := hide ht
    clear ht
    by_cases hlt : k < rs.length
    · obtain ⟨b, o, rfl, hb, hcc⟩ := (h.below hbe hB) (by omega)
      obtain ⟨pa, pc, qa, qc, ⟨hc0, hc1, hc2, hc3, hc4⟩, hin⟩ := hcc k hlt
      clear hcc
      have HC := hide (longBody1_any rs[k] pa pc qa qc B wr hin (HSH.out.at k hlt) (Nat.le_trans hB hbe.size))
      obtain ⟨z, hz⟩ : ∃ z, longP rs[k] = z := ⟨_, rfl⟩
      rw [hz] at HC
      have HZ := hide hz
      clear hz hin
      go_wp2_with fail
      refine HC.out.mono ?_
      rintro e w1 ⟨rfl, hb1⟩
      have c1 := hbe.trans (hb1.mono hbe.size)
      clear HC
      cases z
      · go_wp2
        go_roundw
        case rel => exact ⟨k + 1, by omega, by go_num, fun j hj hjk => by
                      by_cases e : j = k
                      · subst e; exact HZ.out
                      · exact HT.out j hj (by omega), c1⟩
        case measure => simp [intOf]; omega
      · go_wp2
        go_ret
        exact ⟨⟨_, rfl, by rw [any_at k hlt HZ.out]; simp⟩, c1⟩
    · have HE := hide (any_none (rs := rs) (q := longP) (fun j hj => HT.out j hj (by omega)))
      go_wp2
      go_ret
      exact ⟨⟨_, rfl, by rw [HE.out]; rfl⟩, hbe⟩

set_option maxHeartbeats 1000000 in
theorem longBodyC_any (a : Option Addr) (rs : List Rs) (cap B : Nat) (w : World) (h : Rss w B a rs) (hs : ShortT rs) (hl : rs.length ≤ maxLen) (hB : B ≤ w.heap.size) :
    Calls Tryz.prog 152 #[.slice a rs.length cap, .func (.func 154) #[] #[]] w fun e w' => e = .returned (.bool (rs.any longP)) ∧ Below w.heap.size w w' := by
  have HE := hide (longBodyI_any a rs cap B w h hs hl hB)
  generalize rs.any longP = z at *
  go_enter Tryz.func152, Tryz.ntmps152
  go_wp2_with fail
  refine HE.out.mono ?_
  rintro e w1 ⟨⟨x, rfl, hx⟩, hb1⟩
  have HX := hide hx
  clear hx HE
  go_wp2
  go_ret
  exact ⟨by rw [← HX.out]; rfl, hb1⟩

set_option maxHeartbeats 1000000 in
theorem longBody_any (a b s c : Option Addr) (na nb ns cap capb caps capc : Nat) (cs : List Rs) (B : Nat) (w : World) (h : Rss w B c cs) (hs : ShortT cs) (hl : cs.length ≤ maxLen) (hB : B ≤ w.heap.size) :
    Calls Tryz.prog 138 #[.agg #[.slice a na cap, .slice b nb capb, .slice s ns caps, .slice c cs.length capc]] w fun e w' => e = .returned (.bool (cs.any longP)) ∧ Below w.heap.size w w' := by
  have hb0 := (Below.refl w.heap.size w).alloc (Nat.le_refl _) (Obj.cells #[.slice a na cap, .slice b nb capb, .slice s ns caps, .slice c cs.length capc] 75)
  have HE := hide (longBodyC_any c cs capc B _ (h.below hb0 hB) hs hl (by simp; omega))
  have HB0 := hide hb0
  generalize cs.any longP = z at *
  clear hb0
  go_enter Tryz.func138, Tryz.ntmps138
  go_wp2_with fail
  refine HE.out.mono ?_
  rintro e w1 ⟨rfl, hb1⟩
  have c1 := HB0.out.trans (hb1.mono HB0.out.size)
  clear hb1 HE
  go_wp2
  go_ret
  exact ⟨rfl, c1⟩
end Go.Proofs.YtclnpfpaabmkcaaGreat
