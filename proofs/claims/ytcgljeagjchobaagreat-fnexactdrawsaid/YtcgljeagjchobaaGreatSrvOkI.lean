/-
  What impl.SrvOk does.
-/
import Derived.Test.YtcgljeagjchobaaGreatTokenOk
import Derived.Test.YtcgljeagjchobaaGreatAbove
import Derived.Test.YtcgljeagjchobaaGreatTreeOk
import Derived.Deep.RegionHeld3
namespace Go.Proofs.YtcgljeagjchobaaGreat
open Go.RowKit M
set_option linter.unusedVariables false

set_option maxHeartbeats 400000 in
theorem isNaNI_any (x : Int) (w : World) : Calls Tryz.prog 110 #[.int .i64 x] w fun e w' => e = .returned (.bool false) ∧ w' = w := by
  have h : (x != x) = false := by simp
  go_enter Tryz.func110, Tryz.ntmps110
  go_wp2
  go_ret
  first | exact ⟨rfl, rfl⟩ | exact ⟨by simp, rfl⟩
set_option maxHeartbeats 400000 in
theorem lessI_any (x y : Int) (w : World) : Calls Tryz.prog 77 #[.int .i64 x, .int .i64 y] w fun e w' => e = .returned (.bool (ltI x y)) ∧ w' = w := by
  have HN := hide (isNaNI_any x w)
  go_enter Tryz.func77, Tryz.ntmps77
  go_wp2_with fail
  refine HN.out.mono ?_
  rintro e w1 ⟨rfl, hw⟩
  obtain rfl := hw.symm
  go_wp2
  go_ret
  exact ⟨rfl, rfl⟩

set_option maxRecDepth 100000 in
set_option maxHeartbeats 4000000 in
theorem ascInts_any (a : Option Addr) (l : List Int) (cap B : Nat) (w : World) (h : Ints w B a l) (hB : B ≤ w.heap.size) (hl : l.length ≤ 1048577) :
    Calls Tryz.prog 76 #[.slice a l.length cap, .func (.func 77) #[] #[]] w fun e w' => e = .returned (.bool (ascB ltI l)) ∧ Below w.heap.size w w' := by
  have HH := hide h
  clear h
  go_enter Tryz.func76, Tryz.ntmps76
  go_wp2
  go_loopw [5] (fun i wr => ∃ m : Nat, m ≤ l.length ∧ i = .int .i64 ((m : Int) + 1) ∧ Hid (∀ j (hj : j + 1 < l.length), j < m → ltI l[j] l[j + 1] = true) ∧ Below w.heap.size w wr) (fun i _ => l.length - (intOf i).toNat)
  case atStart => exact ⟨0, Nat.zero_le _, by simp, fun j _ hj => absurd hj (Nat.not_lt_zero _), Below.refl _ _⟩
  case round =>
    obtain ⟨m, hm, rfl, HT, hbe⟩ := hrel
    by_cases hlt : m + 1 < l.length
    · obtain ⟨b, o, rfl, hb, hc⟩ := (HH.out.below hbe hB) (by omega)
      have hx := hc m (by omega)
      have hy := hc (m + 1) hlt
      clear hc
      have hl1 : b < wr.drew.heap.size := by have := hbe.size; show b < wr.heap.size; omega
      have hbd : Below w.heap.size w wr.drew := below_drewL hbe
      have hq := lessI_any l[m] l[m + 1] wr.drew
      have hi1 : IntKind.i64.wrap ((m : Int) + 1 - 1) = (m : Int) := by rw [IntKind.wrap_i64] <;> omega
      have hi2 : ((m : Int) + 1).toNat = m + 1 := by omega
      have hi3 : (m : Int) < (l.length : Int) := by omega
      have hi4 : (m : Int) + 1 < (l.length : Int) := by omega
      have hi5 : ¬ ((m : Int) + 1 < 0) := by omega
      have hi6 : IntKind.i64.wrap (m : Int) = (m : Int) := by rw [IntKind.wrap_i64] <;> omega
      have hi7 : (0 : Int) ≤ (m : Int) := by omega
      have hi8 : (0 : Int) ≤ (m : Int) + 1 := by omega
      obtain ⟨z, hz⟩ : ∃ z, ltI l[m] l[m + 1] = z := ⟨_, rfl⟩
      rw [hz] at hq
      have HZ := hide hz
      clear hz
      cases z
      · go_wp2
        go_region_held3 (fun W => W.cell? ⟨b, o + m, none⟩ = some (.int .i64 l[m]) ∧ W.cell? ⟨b, o + (m + 1), none⟩ = some (.int .i64 l[m + 1])) (first | exact ⟨hx, hy⟩ | (simp only [(bcellP hb3).1 b _ hl1]; exact ⟨hx, hy⟩)) ((go_at_call 77; refine hq.mono ?_; rintro e w1 ⟨rfl, hw3⟩; obtain rfl := hw3))
        all_goals
          clear hq
          go_wp2
          go_ret
          exact ⟨ret_bool (ascB_not ltI l m hlt HZ.out).symm, hbd⟩
      · go_wp2
        go_region_held3 (fun W => W.cell? ⟨b, o + m, none⟩ = some (.int .i64 l[m]) ∧ W.cell? ⟨b, o + (m + 1), none⟩ = some (.int .i64 l[m + 1])) (first | exact ⟨hx, hy⟩ | (simp only [(bcellP hb3).1 b _ hl1]; exact ⟨hx, hy⟩)) ((go_at_call 77; refine hq.mono ?_; rintro e w1 ⟨rfl, hw3⟩; obtain rfl := hw3))
        all_goals
          clear hq
          go_wp2
          go_roundw
          case rel => exact ⟨m + 1, by omega, by go_num, fun j hj hjm => by
                        by_cases e : j = m
                        · subst e; exact HZ.out
                        · exact HT.out j hj (by omega), hbd⟩
          case measure => simp [intOf]; omega
    · have HE := hide (ascB_all ltI l (fun j hj => HT.out j hj (by omega)))
      go_wp2
      go_ret
      exact ⟨ret_bool HE.out.symm, hbe⟩

set_option maxHeartbeats 400000 in
theorem nextVerOk_any (x : Int) (w : World) :
    Calls Tryz.prog 32 #[.int .i64 x] w fun e w' => e = .returned (.bool (inB x 1 100000)) ∧ w' = w := by
  go_enter Tryz.func32, Tryz.ntmps32
  go_wp2
  all_goals
    go_ret
    refine ⟨ret_bool ?_, rfl⟩
    go_light
    unfold inB
    simp_all
    try omega

set_option maxHeartbeats 1000000 in
theorem versFn_any (r : Rs) (pa : Option Addr) (pc : Nat) (qa : Option Addr) (qc N : Nat) (t : Int) (w : World) (h : w.cell? ⟨N, 0, none⟩ = some (.int .i64 t)) :
    Calls Tryz.prog 66 #[.agg #[.slice pa r.pa.length pc, .bool r.co, .string r.bo, .int .i64 r.ve, .slice qa r.ps.length qc], .pointer (some ⟨N, 0, none⟩)] w fun e w' => e = .returned (.bool (!decide (r.ve < t))) ∧ Below w.heap.size w w' := by
  have hb := (Below.refl w.heap.size w).alloc (Nat.le_refl _) (Obj.cells #[.slice pa r.pa.length pc, .bool r.co, .string r.bo, .int .i64 r.ve, .slice qa r.ps.length qc] 45)
  have hN : N < w.heap.size := World.block_lt_of_cell? w _ h
  have h1 := (hb.cell (p := ⟨N, 0, none⟩) hN).trans h
  have HB := hide hb
  clear hb
  by_cases hlt : r.ve < t
  · have h2 : decide (t ≤ r.ve) = false := decide_eq_false (by omega)
    rw [decide_eq_true hlt]
    go_enter Tryz.func66, Tryz.ntmps66
    go_wp2
    go_ret
    exact ⟨by first | rfl | (congr 1; simp; omega), HB.out⟩
  · have h2 : decide (t ≤ r.ve) = true := decide_eq_true (by omega)
    rw [decide_eq_false hlt]
    go_enter Tryz.func66, Tryz.ntmps66
    go_wp2
    go_ret
    exact ⟨by first | rfl | (congr 1; simp; omega), HB.out⟩

set_option maxHeartbeats 1000000 in
theorem containsR_any (fn : Nat) (hE : ∀ args w, (callFunc fn args).run Tryz.prog w = .ok (.enter fn args) w) (cp : Array Value) (P : Rs → Bool) (a : Option Addr) (l : List Rs) (cap B : Nat) (w : World) (h : Rss w B a l) (hB : B ≤ w.heap.size) (hl : l.length ≤ 1048577)
    (hP : ∀ k (hk : k < l.length) pa pc qa qc W, Below w.heap.size w W → RsIn W B l[k] pa pc qa qc → Calls Tryz.prog fn (#[.agg #[.slice pa l[k].pa.length pc, .bool l[k].co, .string l[k].bo, .int .i64 l[k].ve, .slice qa l[k].ps.length qc]] ++ cp) W fun e w' => e = .returned (.bool (P l[k])) ∧ Below W.heap.size W w') :
    Calls Tryz.prog 65 #[.slice a l.length cap, .func (.func fn) #[] cp] w fun e w' => e = .returned (.bool (l.any P)) ∧ Below w.heap.size w w' := by
  have HQ := hide (indexR_any fn hE cp P a l cap B w h hB hl hP)
  clear h hP hE
  go_enter Tryz.func65, Tryz.ntmps65
  go_wp2_with fail
  refine HQ.out.mono ?_
  rintro e w1 ⟨⟨z, rfl, hz⟩, b1⟩
  have HZ := hide (placeB_any hz)
  clear hz
  go_wp2
  go_ret
  rw [← HZ.out]
  exact ⟨rfl, b1⟩
set_option maxHeartbeats 1000000 in
theorem containsL_any (fn : Nat) (hE : ∀ args w, (callFunc fn args).run Tryz.prog w = .ok (.enter fn args) w) (cp : Array Value) (P : Lk → Bool) (a : Option Addr) (l : List Lk) (cap B : Nat) (w : World) (h : Lks w B a l) (hB : B ≤ w.heap.size) (hl : l.length ≤ 1048577)
    (hP : ∀ k (hk : k < l.length) pa pc W, Below w.heap.size w W → LkIn W B l[k] pa pc → Calls Tryz.prog fn (#[.agg #[.int .i64 l[k].tk, .slice pa l[k].pa.length pc, .bool l[k].de, .bool l[k].sh, .int .i64 l[k].un]] ++ cp) W fun e w' => e = .returned (.bool (P l[k])) ∧ Below W.heap.size W w') :
    Calls Tryz.prog 70 #[.slice a l.length cap, .func (.func fn) #[] cp] w fun e w' => e = .returned (.bool (l.any P)) ∧ Below w.heap.size w w' := by
  have HQ := hide (indexL_any fn hE cp P a l cap B w h hB hl hP)
  clear h hP hE
  go_enter Tryz.func70, Tryz.ntmps70
  go_wp2_with fail
  refine HQ.out.mono ?_
  rintro e w1 ⟨⟨z, rfl, hz⟩, b1⟩
  have HZ := hide (placeB_any hz)
  clear hz
  go_wp2
  go_ret
  rw [← HZ.out]
  exact ⟨rfl, b1⟩
set_option maxHeartbeats 1000000 in
theorem containsN_any (fn : Nat) (hE : ∀ args w, (callFunc fn args).run Tryz.prog w = .ok (.enter fn args) w) (cp : Array Value) (P : Int → Bool) (a : Option Addr) (l : List Int) (cap B : Nat) (w : World) (h : Ints w B a l) (hB : B ≤ w.heap.size) (hl : l.length ≤ 1048577)
    (hP : ∀ k (hk : k < l.length) W, Below w.heap.size w W → Calls Tryz.prog fn (#[.int .i64 l[k]] ++ cp) W fun e w' => e = .returned (.bool (P l[k])) ∧ Below W.heap.size W w') :
    Calls Tryz.prog 73 #[.slice a l.length cap, .func (.func fn) #[] cp] w fun e w' => e = .returned (.bool (l.any P)) ∧ Below w.heap.size w w' := by
  have HQ := hide (indexN_any fn hE cp P a l cap B w h hB hl hP)
  clear h hP hE
  go_enter Tryz.func73, Tryz.ntmps73
  go_wp2_with fail
  refine HQ.out.mono ?_
  rintro e w1 ⟨⟨z, rfl, hz⟩, b1⟩
  have HZ := hide (placeB_any hz)
  clear hz
  go_wp2
  go_ret
  rw [← HZ.out]
  exact ⟨rfl, b1⟩

set_option maxHeartbeats 2000000 in
theorem versBelow_any (a : Option Addr) (l : List Rs) (cap B : Nat) (t : Int) (w : World) (h : Rss w B a l) (hB : B ≤ w.heap.size) (hl : l.length ≤ 1048577) :
    Calls Tryz.prog 28 #[.slice a l.length cap, .int .i64 t] w fun e w' => e = .returned (.bool (versB l t)) ∧ Below w.heap.size w w' := by
  have hmf : ∀ (fn : Fn) (first cap : Array Value) (w : World), (Instr.makeFunc fn first cap).run Tryz.prog w = .ok (.func fn first cap) w := fun _ _ _ _ => rfl
  have hb := (Below.refl w.heap.size w).alloc (Nat.le_refl _) (Obj.cells #[.int .i64 t] 3)
  have HQ := hide (containsR_any 66 (fun args w => enter_fn Tryz.func66 (by kernel_rfl) rfl args w) #[.pointer (some ⟨w.heap.size, 0, none⟩)] (fun r => !decide (r.ve < t)) a l cap B _ (h.below hb hB) (Nat.le_trans hB hb.size) hl
    (fun k hk pa pc qa qc W hW _ => versFn_any l[k] pa pc qa qc w.heap.size t W ((hW.cell (p := ⟨w.heap.size, 0, none⟩) (by simp)).trans (by simp))))
  have HB := hide hb
  have HV := hide (show l.any (fun r => !decide (r.ve < t)) = !versB l t by unfold versB; rw [any_all]; simp)
  rw [HV.out] at HQ
  clear hb h
  generalize versB l t = z at *
  go_enter Tryz.func28, Tryz.ntmps28
  go_wp2_with fail
  refine HQ.out.mono ?_
  rintro e w1 ⟨rfl, b1⟩
  have HK := hide (HB.out.trans (b1.mono HB.out.size))
  clear b1 HQ hmf
  go_wp2
  go_ret
  exact ⟨by simp, HK.out⟩

set_option maxHeartbeats 2000000 in
theorem tokUsedFn_any (r : Lk) (pa : Option Addr) (pc N : Nat) (ua : Option Addr) (us : List Int) (uc B : Nat) (w : World) (h : w.cell? ⟨N, 0, none⟩ = some (.slice ua us.length uc)) (hu : Ints w B ua us) (hB : B ≤ w.heap.size) (hl : us.length ≤ 1048576) :
    Calls Tryz.prog 71 #[.agg #[.int .i64 r.tk, .slice pa r.pa.length pc, .bool r.de, .bool r.sh, .int .i64 r.un], .pointer (some ⟨N, 0, none⟩)] w fun e w' => e = .returned (.bool (!us.any (· == r.tk))) ∧ Below w.heap.size w w' := by
  have hb := (Below.refl w.heap.size w).alloc (Nat.le_refl _) (Obj.cells #[.int .i64 r.tk, .slice pa r.pa.length pc, .bool r.de, .bool r.sh, .int .i64 r.un] 48)
  have hN : N < w.heap.size := World.block_lt_of_cell? w _ h
  have h1 := (hb.cell (p := ⟨N, 0, none⟩) hN).trans h
  have HC := hide (containsI_any ua us uc B r.tk _ (hu.below hb hB) hl)
  have HB := hide hb
  clear hb hu
  generalize us.any (· == r.tk) = z at *
  go_enter Tryz.func71, Tryz.ntmps71
  go_wp2_with fail
  refine HC.out.mono ?_
  rintro e w1 ⟨rfl, hw⟩
  obtain rfl := hw
  go_wp2
  go_ret
  exact ⟨rfl, HB.out⟩

set_option maxHeartbeats 2000000 in
theorem tokensUsed_any (a : Option Addr) (l : List Lk) (cap B : Nat) (ua : Option Addr) (us : List Int) (uc C : Nat) (w : World) (h : Lks w B a l) (hB : B ≤ w.heap.size) (hl : l.length ≤ 1048577) (hu : Ints w C ua us) (hC : C ≤ w.heap.size) (hul : us.length ≤ 1048576) :
    Calls Tryz.prog 30 #[.slice a l.length cap, .slice ua us.length uc] w fun e w' => e = .returned (.bool (drewB l us)) ∧ Below w.heap.size w w' := by
  have hmf : ∀ (fn : Fn) (first cap : Array Value) (w : World), (Instr.makeFunc fn first cap).run Tryz.prog w = .ok (.func fn first cap) w := fun _ _ _ _ => rfl
  have hb := (Below.refl w.heap.size w).alloc (Nat.le_refl _) (Obj.cells #[.slice ua us.length uc] 24)
  have HQ := hide (containsL_any 71 (fun args w => enter_fn Tryz.func71 (by kernel_rfl) rfl args w) #[.pointer (some ⟨w.heap.size, 0, none⟩)] (fun r => !us.any (· == r.tk)) a l cap B _ (h.below hb hB) (Nat.le_trans hB hb.size) hl
    (fun k hk pa pc W hW _ => tokUsedFn_any l[k] pa pc w.heap.size ua us uc C W ((hW.cell (p := ⟨w.heap.size, 0, none⟩) (by simp)).trans (by simp)) ((hu.below hb hC).below hW (Nat.le_trans hC hb.size)) (Nat.le_trans hC (Nat.le_trans hb.size hW.size)) hul))
  have HB := hide hb
  have HV := hide (show l.any (fun r => !us.any (· == r.tk)) = !drewB l us by unfold drewB; rw [any_all]; simp)
  rw [HV.out] at HQ
  clear hb h hu
  generalize drewB l us = z at *
  go_enter Tryz.func30, Tryz.ntmps30
  go_wp2_with fail
  refine HQ.out.mono ?_
  rintro e w1 ⟨rfl, b1⟩
  have HK := hide (HB.out.trans (b1.mono HB.out.size))
  clear b1 HQ hmf
  go_wp2
  go_ret
  exact ⟨by simp, HK.out⟩

set_option maxHeartbeats 1000000 in
theorem usedFn_any (n : Int) (w : World) : Calls Tryz.prog 74 #[.int .i64 n] w fun e w' => e = .returned (.bool (!inB n 1 9999)) ∧ Below w.heap.size w w' := by
  have HT := hide (tokenOk_any n w)
  generalize inB n 1 9999 = z at *
  go_enter Tryz.func74, Tryz.ntmps74
  go_wp2_with fail
  refine HT.out.mono ?_
  rintro e w1 ⟨rfl, hw⟩
  obtain rfl := hw.symm
  go_wp2
  go_ret
  exact ⟨rfl, Below.refl _ _⟩
set_option maxHeartbeats 2000000 in
theorem usedOk_any (a : Option Addr) (l : List Int) (cap B : Nat) (w : World) (h : Ints w B a l) (hB : B ≤ w.heap.size) (hl : l.length ≤ 1048577) :
    Calls Tryz.prog 33 #[.slice a l.length cap] w fun e w' => e = .returned (.bool (usedB l)) ∧ Below w.heap.size w w' := by
  have HQ := hide (containsN_any 74 (fun args w => enter_fn Tryz.func74 (by kernel_rfl) rfl args w) #[] (fun n => !inB n 1 9999) a l cap B w h hB hl (fun k hk W _ => usedFn_any l[k] W))
  have HA := hide (fun W (hb : Below w.heap.size w W) => ascInts_any a l cap B W (h.below hb hB) (Nat.le_trans hB hb.size) hl)
  have HV := hide (show l.any (fun n => !inB n 1 9999) = !l.all (fun n => inB n 1 9999) by rw [any_all]; simp)
  rw [HV.out] at HQ
  unfold usedB
  clear h HV
  generalize l.all (fun n => inB n 1 9999) = z at *
  generalize ascB ltI l = y at *
  go_enter Tryz.func33, Tryz.ntmps33
  go_wp2_with fail
  refine HQ.out.mono ?_
  rintro e w1 ⟨rfl, b1⟩
  have HK := hide b1
  clear HQ b1
  cases z
  · go_wp2
    go_ret
    exact ⟨rfl, HK.out⟩
  · go_wp2_with fail
    refine (HA.out w1 HK.out).mono ?_
    rintro e w2 ⟨rfl, b2⟩
    have HK2 := hide (HK.out.trans (b2.mono HK.out.size))
    go_wp2
    go_ret
    exact ⟨by simp, HK2.out⟩
end Go.Proofs.YtcgljeagjchobaaGreat
