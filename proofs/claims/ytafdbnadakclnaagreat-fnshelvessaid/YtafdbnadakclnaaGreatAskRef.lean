/-
  What impl.isThere, impl.pathsOk and impl.askRefused do.
-/
import Derived.Test.YtafdbnadakclnaaGreatIsThere
import Derived.Test.YtafdbnadakclnaaGreatMathOps
namespace Go.Proofs.YtafdbnadakclnaaGreat
open Go.RowKit M
set_option linter.unusedVariables false

/-- One path as it is handed in: what it has, where it lies, its room. -/
abbrev PathV := List ByteArray × Option Addr × Nat
/-- What a list of paths holds that a call was handed. -/
structure PathsAt (w : World) (g : Nat) (ps : List PathV) : Prop where
  lt : g < w.heap.size
  cl : ∀ j (hj : j < ps.length), w.cell? ⟨g, j, none⟩ = some (.slice ps[j].2.1 ps[j].1.length ps[j].2.2)
  st : ∀ j (hj : j < ps.length), Strs w w.heap.size ps[j].2.1 ps[j].1 ∧ Short ps[j].1 ∧ ps[j].1.length ≤ maxLen
theorem PathsAt.below {w w' : World} {g : Nat} {ps : List PathV} (h : PathsAt w g ps) (hb : Below w.heap.size w w') : PathsAt w' g ps :=
  ⟨Nat.lt_of_lt_of_le h.lt hb.size, fun j hj => (hb.cell (p := ⟨g, j, none⟩) h.lt).trans (h.cl j hj), fun j hj => ⟨((h.st j hj).1.below hb (Nat.le_refl _)).mono hb.size, (h.st j hj).2⟩⟩
def pathsB (ps : List PathV) : Bool := ps.all fun p => pathB p.1

set_option maxHeartbeats 1000000 in
theorem pathsOk_any (g cap : Nat) (ps : List PathV) (hl : ps.length ≤ 1048576) (w : World) (h : PathsAt w g ps) :
    Calls Tryz.prog 101 #[.slice (some ⟨g, 0, none⟩) ps.length cap] w fun e w' => e = .returned (.bool (pathsB ps)) ∧ Below w.heap.size w w' := by
  go_enter Tryz.func101, Tryz.ntmps101
  go_wp2
  go_loopw [7] (fun i wr => ∃ k : Nat, k ≤ ps.length ∧ i = .int .i64 k ∧ (∀ j (hj : j < ps.length), j < k → pathB ps[j].1 = true) ∧ Below w.heap.size w wr) (fun i _ => ps.length - (intOf i).toNat)
  case atStart => exact ⟨0, Nat.zero_le _, rfl, fun j _ hj => absurd hj (Nat.not_lt_zero _), Below.refl _ _⟩
  case round =>
    obtain ⟨k, hk, rfl, hok, hbe⟩ := hrel
    have HOK := hide hok
    clear hok
    by_cases hlt : k < ps.length
    · have h1 := h.below hbe
      have hc := h1.cl k hlt
      obtain ⟨hst, hsh, hll⟩ := h1.st k hlt
      have HP := hide (pathOk_any ps[k].2.1 ps[k].1 ps[k].2.2 wr hst hsh hll)
      have HB := hide (show pathB ps[k].1 = pathB ps[k].1 from rfl)
      generalize hz : pathB ps[k].1 = z at HP HB
      have HZ := hide hz
      clear hz h1 hst hsh hll HB
      cases z
      · go_wp2_with fail
        refine HP.out.mono ?_
        rintro e w1 ⟨rfl, b1⟩
        have HF := hide (show pathsB ps = false by
          unfold pathsB
          rw [List.all_eq_false]
          exact ⟨ps[k], List.getElem_mem hlt, by rw [HZ.out]; simp⟩)
        go_wp2
        go_ret
        exact ⟨by rw [HF.out]; rfl, hbe.trans (b1.mono hbe.size)⟩
      · go_wp2_with fail
        refine HP.out.mono ?_
        rintro e w1 ⟨rfl, b1⟩
        have HO2 := hide (show ∀ j (hj : j < ps.length), j < k + 1 → pathB ps[j].1 = true from fun j hj hjk => by
          by_cases e : j = k
          · subst e; exact HZ.out
          · exact HOK.out j hj (by omega))
        go_wp2
        go_roundw
        case rel => exact ⟨k + 1, by omega, by go_num, HO2.out, hbe.trans (b1.mono hbe.size)⟩
        case measure => simp [intOf]; omega
    · have HF := hide (show pathsB ps = true by
        unfold pathsB
        rw [List.all_eq_true]
        intro p hp
        obtain ⟨j, hj, rfl⟩ := List.mem_iff_getElem.1 hp
        exact HOK.out j hj (by omega))
      go_wp2
      go_ret
      exact ⟨by rw [HF.out]; rfl, hbe⟩

/-- Why shelves cannot be turned, at these paths; 0: they can. -/
def askI (rs : List Rs) (v : Int) (pb : Bool) : Int := if treeB rs = false then 500 else if pb = false then 400 else if inB v 0 99999 = false then 507 else 0
theorem askI_one (rs : List Rs) (v : Int) (p : List ByteArray) (a : Option Addr) (c : Nat) : askI rs v (pathsB [(p, a, c)]) = mayI rs p v := by
  unfold askI mayI pathsB
  simp

set_option maxHeartbeats 1000000 in
theorem askRefused_any (a : Option Addr) (rs : List Rs) (cap B : Nat) (v : Int) (g cap' : Nat) (ps : List PathV) (hl' : ps.length ≤ 1048576) (w : World) (h : Rss w B a rs) (hB : B ≤ w.heap.size) (hs : ShortT rs) (hl : rs.length ≤ maxLen) (h' : PathsAt w g ps) :
    Calls Tryz.prog 55 #[.slice a rs.length cap, .int .i64 v, .slice (some ⟨g, 0, none⟩) ps.length cap'] w fun e w' => e = .returned (.int .i64 (askI rs v (pathsB ps))) ∧ Below w.heap.size w w' := by
  have HT := hide (treeOk_any a rs cap B w h hB hs hl)
  have HP := hide (fun W (hb : Below w.heap.size w W) => pathsOk_any g cap' ps hl' W (h'.below hb))
  have HV := hide (fun W => verOk_any v W)
  have HE := hide (show askI rs v (pathsB ps) = if treeB rs = false then 500 else if pathsB ps = false then 400 else if inB v 0 99999 = false then 507 else 0 from rfl)
  generalize askI rs v (pathsB ps) = E at *
  generalize treeB rs = z1 at *
  generalize pathsB ps = z2 at *
  generalize inB v 0 99999 = z3 at *
  cases z1
  · have HE' := hide (HE.out.trans (if_pos rfl))
    clear HE
    go_enter Tryz.func55, Tryz.ntmps55
    go_wp2_with fail
    refine HT.out.mono ?_
    rintro e w1 ⟨rfl, b1⟩
    go_wp2
    go_ret
    exact ⟨by rw [HE'.out]; rfl, b1⟩
  · cases z2
    · have HE' := hide (HE.out.trans ((if_neg (by simp)).trans (if_pos rfl)))
      clear HE
      go_enter Tryz.func55, Tryz.ntmps55
      go_wp2_with fail
      refine HT.out.mono ?_
      rintro e w1 ⟨rfl, b1⟩
      have X1 := hide (HP.out w1 b1)
      clear HT HP
      go_wp2_with fail
      refine X1.out.mono ?_
      rintro e w2 ⟨rfl, b2⟩
      go_wp2
      go_ret
      exact ⟨by rw [HE'.out]; rfl, b1.trans (b2.mono b1.size)⟩
    · cases z3
      · have HE' := hide (HE.out.trans ((if_neg (by simp)).trans ((if_neg (by simp)).trans (if_pos rfl))))
        clear HE
        go_enter Tryz.func55, Tryz.ntmps55
        go_wp2_with fail
        refine HT.out.mono ?_
        rintro e w1 ⟨rfl, b1⟩
        have X1 := hide (HP.out w1 b1)
        clear HT HP
        go_wp2_with fail
        refine X1.out.mono ?_
        rintro e w2 ⟨rfl, b2⟩
        go_wp2_with fail
        refine (HV.out w2).mono ?_
        rintro e w3 ⟨rfl, hw3⟩
        obtain rfl := hw3.symm
        go_wp2
        go_ret
        exact ⟨by rw [HE'.out]; rfl, b1.trans (b2.mono b1.size)⟩
      · have HE' := hide (HE.out.trans ((if_neg (by simp)).trans ((if_neg (by simp)).trans (if_neg (by simp)))))
        clear HE
        go_enter Tryz.func55, Tryz.ntmps55
        go_wp2_with fail
        refine HT.out.mono ?_
        rintro e w1 ⟨rfl, b1⟩
        have X1 := hide (HP.out w1 b1)
        clear HT HP
        go_wp2_with fail
        refine X1.out.mono ?_
        rintro e w2 ⟨rfl, b2⟩
        go_wp2_with fail
        refine (HV.out w2).mono ?_
        rintro e w3 ⟨rfl, hw3⟩
        obtain rfl := hw3.symm
        go_wp2
        go_ret
        exact ⟨by rw [HE'.out]; rfl, b1.trans (b2.mono b1.size)⟩
end Go.Proofs.YtafdbnadakclnaaGreat
