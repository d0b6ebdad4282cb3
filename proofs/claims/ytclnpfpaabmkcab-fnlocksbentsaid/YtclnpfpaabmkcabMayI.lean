/-
  What impl.touching and impl.MayTurn do.
-/
import Derived.Test.YtclnpfpaabmkcabDropI
import Derived.Test.YtclnpfpaabmkcabHasI
import Derived.Test.YtclnpfpaabmkcabCoversI
namespace Go.Proofs.Ytclnpfpaabmkcab
open Go.RowKit M
set_option linter.unusedVariables false

set_option maxRecDepth 100000 in
set_option maxHeartbeats 4000000 in
theorem indexO_any (fn : Nat) (hE : ∀ args w, (callFunc fn args).run Try.prog w = .ok (.enter fn args) w) (cp : Array Value) (P : Lk → Bool) (a : Option Addr) (l : List Lk) (cap B : Nat) (w : World) (h : Lks w B a l) (hB : B ≤ w.heap.size) (hl : l.length ≤ 1048577)
    (hP : ∀ k (hk : k < l.length) pa pc W, Below w.heap.size w W → LkIn W B l[k] pa pc → Calls Try.prog fn (#[.agg #[.int .i64 l[k].tk, .slice pa l[k].pa.length pc, .bool l[k].de, .bool l[k].sh, .int .i64 l[k].un]] ++ cp) W fun e w' => e = .returned (.bool (P l[k])) ∧ Below W.heap.size W w') :
    Calls Try.prog 95 #[.slice a l.length cap, .func (.func fn) #[] cp] w fun e w' => (∃ z : Int, e = .returned (.int .i64 z) ∧ placeB P l z) ∧ Below w.heap.size w w' := by
  have HH := hide h
  have HP := hide hP
  have HE := hide hE
  clear h hP hE
  go_enter Try.func95, Try.ntmps95
  go_wp2
  go_loopw [8] (fun i wr => ∃ k : Nat, k ≤ l.length ∧ i = .int .i64 k ∧ Hid (∀ j (hj : j < l.length), j < k → P l[j] = false) ∧ Below w.heap.size w wr) (fun i _ => l.length - (intOf i).toNat)
  case atStart => exact ⟨0, Nat.zero_le _, rfl, fun j _ hj => absurd hj (Nat.not_lt_zero _), Below.refl _ _⟩
  case round =>
    obtain ⟨k, hk, rfl, HN, hbe⟩ := hrel
    by_cases hlt : k < l.length
    · obtain ⟨b, o, rfl, hb, hc⟩ := (HH.out.below hbe hB) (by omega)
      obtain ⟨pa, pc, ⟨hc0, hc1, hc2, hc3, hc4⟩, hin⟩ := hc k hlt
      have HC := hide (HP.out k hlt pa pc wr hbe hin)
      obtain ⟨z, hz⟩ : ∃ z, P l[k] = z := ⟨_, rfl⟩
      rw [hz] at HC
      have HZ := hide hz
      clear hz hc hin
      go_wp2_with fail
      rw [HE.out, Oper.upon_enter]
      refine HC.out.mono ?_
      rintro e w1 ⟨rfl, b1⟩
      have c1 := hbe.trans (b1.mono hbe.size)
      clear b1 HC hc0 hc1 hc2 hc3 hc4
      cases z
      · go_wp2
        go_roundw
        case rel => exact ⟨k + 1, by omega, by go_num, fun j hj hjk => if e : j = k then by subst e; exact HZ.out else HN.out j hj (by omega), c1⟩
        case measure => simp [intOf]; omega
      · go_wp2
        go_ret
        exact ⟨⟨_, rfl, .inr ⟨k, rfl, hlt, HZ.out, HN.out⟩⟩, c1⟩
    · go_wp2
      go_ret
      exact ⟨⟨_, rfl, .inl ⟨rfl, any_none (fun j hj => HN.out j hj (by omega))⟩⟩, hbe⟩


theorem any_lk {P : Lk → Bool} (l : List Lk) : (l.filter P).length = 0 ↔ l.any P = false := by
  rw [List.length_eq_zero_iff, List.filter_eq_nil_iff, Bool.eq_false_iff, ne_eq, List.any_eq_true]
  exact ⟨fun h ⟨x, hx, hp⟩ => h x hx hp, fun h x hx hp => h ⟨x, hx, hp⟩⟩

set_option maxHeartbeats 1000000 in
theorem containsO_any (fn : Nat) (hE : ∀ args w, (callFunc fn args).run Try.prog w = .ok (.enter fn args) w) (cp : Array Value) (P : Lk → Bool) (a : Option Addr) (l : List Lk) (cap B : Nat) (w : World) (h : Lks w B a l) (hB : B ≤ w.heap.size) (hl : l.length ≤ 1048577)
    (hP : ∀ k (hk : k < l.length) pa pc W, Below w.heap.size w W → LkIn W B l[k] pa pc → Calls Try.prog fn (#[.agg #[.int .i64 l[k].tk, .slice pa l[k].pa.length pc, .bool l[k].de, .bool l[k].sh, .int .i64 l[k].un]] ++ cp) W fun e w' => e = .returned (.bool (P l[k])) ∧ Below W.heap.size W w') :
    Calls Try.prog 71 #[.slice a l.length cap, .func (.func fn) #[] cp] w fun e w' => e = .returned (.bool (l.any P)) ∧ Below w.heap.size w w' := by
  have HQ := hide (indexO_any fn hE cp P a l cap B w h hB hl hP)
  clear h hP hE
  go_enter Try.func71, Try.ntmps71
  go_wp2_with fail
  refine HQ.out.mono ?_
  rintro e w1 ⟨⟨z, rfl, hz⟩, b1⟩
  have HZ := hide (placeB_any hz)
  have HB := hide b1
  clear hz b1
  go_wp2
  go_ret
  exact ⟨by rw [← HZ.out]; rfl, HB.out⟩

set_option maxHeartbeats 1000000 in
theorem heldFn_any (r : Lk) (pa : Option Addr) (pc N : Nat) (C : Nat) (ta : Option Addr) (toks : List Int) (tc : Nat) (w : World) (h : w.cell? ⟨N, 0, none⟩ = some (.slice ta toks.length tc)) (ht : Ints w C ta toks) (hC : C ≤ w.heap.size) (hl : toks.length ≤ 1048576) :
    Calls Try.prog 66 #[.agg #[.int .i64 r.tk, .slice pa r.pa.length pc, .bool r.de, .bool r.sh, .int .i64 r.un], .pointer (some ⟨N, 0, none⟩)] w fun e w' => e = .returned (.bool (hasB toks r)) ∧ Below w.heap.size w w' := by
  have hb := (Below.refl w.heap.size w).alloc (Nat.le_refl _) (Obj.cells #[.int .i64 r.tk, .slice pa r.pa.length pc, .bool r.de, .bool r.sh, .int .i64 r.un] 26)
  have hN : N < w.heap.size := World.block_lt_of_cell? w _ h
  have h1 := (hb.cell (p := ⟨N, 0, none⟩) hN).trans h
  have HQ := hide (containsI_any ta toks tc C r.tk _ (ht.below hb hC) hl)
  have HB := hide hb
  clear hb ht h
  go_enter Try.func66, Try.ntmps66
  go_wp2_with fail
  refine HQ.out.mono ?_
  rintro e w1 ⟨rfl, hw⟩
  obtain rfl := hw.symm
  clear HQ hw
  go_wp2
  go_ret
  exact ⟨rfl, HB.out⟩

set_option maxHeartbeats 1000000 in
theorem sharedFn_any (r : Lk) (pa : Option Addr) (pc : Nat) (w : World) :
    Calls Try.prog 69 #[.agg #[.int .i64 r.tk, .slice pa r.pa.length pc, .bool r.de, .bool r.sh, .int .i64 r.un]] w fun e w' => e = .returned (.bool r.sh) ∧ Below w.heap.size w w' := by
  have HB := hide ((Below.refl w.heap.size w).alloc (Nat.le_refl _) (Obj.cells #[.int .i64 r.tk, .slice pa r.pa.length pc, .bool r.de, .bool r.sh, .int .i64 r.un] 26))
  go_enter Try.func69, Try.ntmps69
  go_wp2
  go_ret
  exact ⟨rfl, HB.out⟩

set_option maxHeartbeats 2000000 in
theorem missFn_any (r : Lk) (pa : Option Addr) (pc N M C : Nat) (ta : Option Addr) (toks : List Int) (tc : Nat) (w : World) (hM : w.cell? ⟨M, 0, none⟩ = some (.func (.func 66) #[] #[.pointer (some ⟨N, 0, none⟩)])) (h : w.cell? ⟨N, 0, none⟩ = some (.slice ta toks.length tc)) (ht : Ints w C ta toks) (hC : C ≤ w.heap.size) (hl : toks.length ≤ 1048576) :
    Calls Try.prog 70 #[.agg #[.int .i64 r.tk, .slice pa r.pa.length pc, .bool r.de, .bool r.sh, .int .i64 r.un], .pointer (some ⟨M, 0, none⟩)] w fun e w' => e = .returned (.bool (!r.sh && !hasB toks r)) ∧ Below w.heap.size w w' := by
  have hb := (Below.refl w.heap.size w).alloc (Nat.le_refl _) (Obj.cells #[.int .i64 r.tk, .slice pa r.pa.length pc, .bool r.de, .bool r.sh, .int .i64 r.un] 26)
  have hN : N < w.heap.size := World.block_lt_of_cell? w _ h
  have hM2 : M < w.heap.size := World.block_lt_of_cell? w _ hM
  have h1 := (hb.cell (p := ⟨N, 0, none⟩) hN).trans h
  have h2 := (hb.cell (p := ⟨M, 0, none⟩) hM2).trans hM
  have HQ := hide (heldFn_any r pa pc N C ta toks tc _ h1 (ht.below hb hC) (Nat.le_trans hC hb.size) hl)
  have HB := hide hb
  clear hb ht h h1 hM
  obtain ⟨tk, tt, de, sh, un⟩ := r
  simp only at *
  generalize hasB toks ⟨tk, tt, de, sh, un⟩ = hs at *
  cases sh
  · go_enter Try.func70, Try.ntmps70
    go_wp2_with fail
    refine HQ.out.mono ?_
    rintro e w1 ⟨rfl, b1⟩
    have HC1 := hide (HB.out.trans (b1.mono HB.out.size))
    clear b1 HQ h2
    go_wp2
    go_ret
    exact ⟨rfl, HC1.out⟩
  · go_enter Try.func70, Try.ntmps70
    clear HQ h2
    go_wp2
    go_ret
    exact ⟨rfl, HB.out⟩

set_option maxHeartbeats 2000000 in
theorem touchFn_any (r : Lk) (pa : Option Addr) (pc N M B C : Nat) (qa : Option Addr) (q : List ByteArray) (qc : Nat) (deep : Bool) (w : World) (h : w.cell? ⟨N, 0, none⟩ = some (.slice qa q.length qc)) (hM : w.cell? ⟨M, 0, none⟩ = some (.bool deep)) (hin : LkIn w B r pa pc) (hB : B ≤ w.heap.size) (hq : Strs w C qa q) (hC : C ≤ w.heap.size) (h1 : q.length ≤ qc) (h2 : qc ≤ maxLen) :
    Calls Try.prog 94 #[.agg #[.int .i64 r.tk, .slice pa r.pa.length pc, .bool r.de, .bool r.sh, .int .i64 r.un], .pointer (some ⟨N, 0, none⟩), .pointer (some ⟨M, 0, none⟩)] w fun e w' => e = .returned (.bool (touchB q deep r)) ∧ Below w.heap.size w w' := by
  have hb := (Below.refl w.heap.size w).alloc (Nat.le_refl _) (Obj.cells #[.int .i64 r.tk, .slice pa r.pa.length pc, .bool r.de, .bool r.sh, .int .i64 r.un] 26)
  have hN : N < w.heap.size := World.block_lt_of_cell? w _ h
  have hM2 : M < w.heap.size := World.block_lt_of_cell? w _ hM
  have c1 := (hb.cell (p := ⟨N, 0, none⟩) hN).trans h
  have c2 := (hb.cell (p := ⟨M, 0, none⟩) hM2).trans hM
  have HQ := hide (covers_any r pa pc qa q qc B C _ (hin.below hb hB) (Nat.le_trans hB hb.size) (hq.below hb hC) (Nat.le_trans hC hb.size) h1 h2)
  have HU := hide (fun w1 (hb1 : Below w.heap.size w w1) => under_any pa qa r.pa q pc qc B C w1 (hin.ph.below hb1 hB) (hq.below hb1 hC) hin.len (Nat.le_trans h1 h2) hin.pl hin.pm)
  have HX := hide (BoxV.made w [.int .i64 r.tk, .slice pa r.pa.length pc, .bool r.de, .bool r.sh, .int .i64 r.un] 26)
  have HB := hide hb
  have hsz : (w.alloc (Obj.cells #[.int .i64 r.tk, .slice pa r.pa.length pc, .bool r.de, .bool r.sh, .int .i64 r.un] 26)).heap.size = w.heap.size + 1 := by simp
  have HSZ := hide hsz
  have HT := hide (show touchB q deep r = (covB r q || (deep && underB r.pa q)) from rfl)
  clear hb hin hq h hM hsz
  generalize touchB q deep r = tb at *
  generalize covB r q = cv at *
  generalize underB r.pa q = un2 at *
  have hT := HT.out
  clear HT
  go_enter Try.func94, Try.ntmps94
  go_wp2_with fail
  refine HQ.out.mono ?_
  rintro e w1 ⟨rfl, b1⟩
  have HC1 := hide (HB.out.trans (b1.mono HB.out.size))
  have d1 := (b1.cell (p := ⟨N, 0, none⟩) (Nat.lt_of_lt_of_le hN HB.out.size)).trans c1
  have d2 := (b1.cell (p := ⟨M, 0, none⟩) (Nat.lt_of_lt_of_le hM2 HB.out.size)).trans c2
  have hx := (HX.out.next b1).2 1 _ rfl
  have hx1 := hx.1
  have HU1 := hide (HU.out w1 HC1.out)
  clear b1 HQ c1 c2 hx HU
  cases cv
  · cases deep
    · simp only [Bool.false_and, Bool.or_self] at hT
      subst hT
      go_wp2
      go_ret
      exact ⟨rfl, HC1.out⟩
    · simp only [Bool.true_and, Bool.false_or] at hT
      subst hT
      go_wp2_with fail
      refine HU1.out.mono ?_
      rintro e w2 ⟨rfl, b2⟩
      have HC2 := hide (HC1.out.trans (b2 _))
      clear b2
      go_wp2
      go_ret
      exact ⟨rfl, HC2.out⟩
  · simp only [Bool.true_or] at hT
    subst hT
    go_wp2
    go_ret
    exact ⟨rfl, HC1.out⟩

set_option maxHeartbeats 2000000 in
theorem touching_any (a : Option Addr) (l : List Lk) (cap B : Nat) (qa : Option Addr) (q : List ByteArray) (qc C : Nat) (deep : Bool) (w : World) (h : Lks w B a l) (hB : B ≤ w.heap.size) (hq : Strs w C qa q) (hC : C ≤ w.heap.size) (h1 : q.length ≤ qc) (h2 : qc ≤ maxLen) (hl : l.length ≤ 1048576) :
    Calls Try.prog 68 #[.slice a l.length cap, .slice qa q.length qc, .bool deep] w fun e w' => (∃ (g n c : Nat) (ts : List LkT), e = .returned (.slice (some ⟨g, 0, none⟩) n c) ∧ n = ts.length ∧ n ≤ c ∧ c ≤ maxLen ∧ g < w'.heap.size ∧ ts.map (·.r) = l.filter (touchB q deep) ∧ RowV w' g ts ∧ InV w' B ts) ∧ Below w.heap.size w w' := by
  have hmf : ∀ (fn : Fn) (first cap : Array Value) (w : World), (Instr.makeFunc fn first cap).run Try.prog w = .ok (.func fn first cap) w := fun _ _ _ _ => rfl
  have hb0 := ((Below.refl w.heap.size w).alloc (Nat.le_refl _) (Obj.cells #[.slice qa q.length qc] 24)).alloc (by simp) (Obj.cells #[.bool deep] 4)
  have hc1 : ((w.alloc (Obj.cells #[.slice qa q.length qc] 24)).alloc (Obj.cells #[.bool deep] 4)).cell? ⟨w.heap.size, 0, none⟩ = some (.slice qa q.length qc) := by simp
  have hc2 : ((w.alloc (Obj.cells #[.slice qa q.length qc] 24)).alloc (Obj.cells #[.bool deep] 4)).cell? ⟨w.heap.size + 1, 0, none⟩ = some (.bool deep) := by simp
  have HT := hide (those_any 94 (fun args w => enter_fn Try.func94 (by kernel_rfl) rfl args w) #[.pointer (some ⟨w.heap.size, 0, none⟩), .pointer (some ⟨w.heap.size + 1, 0, none⟩)] (touchB q deep) a l cap B _ (h.below hb0 hB) (Nat.le_trans hB hb0.size) (by omega) (fun k hk pa pc W hW hin => touchFn_any l[k] pa pc w.heap.size (w.heap.size + 1) B C qa q qc deep W ((hW.cell (p := ⟨w.heap.size, 0, none⟩) (by simp; try omega)).trans hc1) ((hW.cell (p := ⟨w.heap.size + 1, 0, none⟩) (by simp; try omega)).trans hc2) hin (Nat.le_trans (Nat.le_trans hB hb0.size) hW.size) ((hq.below hb0 hC).below hW (Nat.le_trans hC hb0.size)) (Nat.le_trans (Nat.le_trans hC hb0.size) hW.size) h1 h2))
  have HB0 := hide hb0
  clear hb0 hc1 hc2 h hq h1 h2
  go_enter Try.func68, Try.ntmps68
  go_wp2_with fail
  refine HT.out.mono ?_
  rintro e w1 ⟨⟨g, n, c, ts, rfl, hn, hc1, hc2, hg, hgl, hts, hrow, hin⟩, b1⟩
  have HC1 := hide (HB0.out.trans (b1.mono HB0.out.size))
  have HF := hide (And.intro hn (And.intro hc1 (And.intro hc2 (And.intro hgl (And.intro hts (And.intro hrow hin))))))
  clear hn hc1 hc2 hg hgl hts hrow hin b1 HT
  go_wp2
  go_ret
  exact ⟨⟨g, n, c, ts, rfl, HF.out⟩, HC1.out⟩
end Go.Proofs.Ytclnpfpaabmkcab
