/-
  What the laws' own helps do that mark bytes, from whatever number on, and rows of rows of them.
-/
import Derived.Test.YtkhnkockdfmkgabBytss
import Derived.Test.YtkhnkockdfmkgabMarkByt
namespace Go.Proofs.Ytkhnkockdfmkgab
open Go.RowKit M
set_option linter.unusedVariables false

/-- What was turned of what was there lies in the blocks from lo on, below hi. -/
structure Within (lo hi : Nat) (w w' : World) : Prop where
  os : w'.os = w.os
  tape : w'.tape = w.tape
  output : w'.output = w.output
  size : w.heap.size ≤ w'.heap.size
  block : ∀ k, k < w.heap.size → (k < lo ∨ hi ≤ k) → w'.heap[k]? = w.heap[k]?
theorem Within.refl (lo hi : Nat) (w : World) : Within lo hi w w := ⟨rfl, rfl, rfl, Nat.le_refl _, fun _ _ _ => rfl⟩
theorem Within.trans {lo hi : Nat} {a b c : World} (h : Within lo hi a b) (k : Within lo hi b c) : Within lo hi a c :=
  ⟨k.os.trans h.os, k.tape.trans h.tape, k.output.trans h.output, Nat.le_trans h.size k.size, fun i hi hk => (k.block i (Nat.lt_of_lt_of_le hi h.size) hk).trans (h.block i hi hk)⟩
theorem Within.below {lo hi : Nat} {w w' : World} (h : Within lo hi w w') (hz : lo ≤ w.heap.size) : Below lo w w' :=
  ⟨h.os, h.tape, h.output, h.size, fun k hk => h.block k (by omega) (.inl hk)⟩
theorem Within.of_grown {lo hi g : Nat} {w w' : World} (h : w.grownBy w' (some g)) (h1 : lo ≤ g) (h2 : g < hi) : Within lo hi w w' :=
  ⟨h.os, h.tape, h.output, h.size, fun k hk hd => h.block k hk (fun e => by have := Option.some.inj e; omega)⟩
theorem Within.of_below {lo hi : Nat} {w w' : World} (h : Below w.heap.size w w') : Within lo hi w w' :=
  ⟨h.os, h.tape, h.output, h.size, fun k hk _ => h.block k hk⟩

theorem RowC.setAny {w : World} {g n : Nat} (h : RowC w g n) (g' o : Nat) (v : Value) : RowC (w.setCell ⟨g', o, none⟩ v) g n := by
  by_cases e : g = g'
  · subst e; exact h.set o v
  · exact h.of (by simp [World.setCell]) (Below.heap_setCell _ _ _ _ e)

set_option maxHeartbeats 1000000 in
theorem markByteS_from (g n cap k0 : Nat) (w : World) (h : RowC w g n) (hn : n ≤ 1073741824) (hk0 : k0 ≤ 1073741824) :
    Calls Try.prog 11 #[.slice (some ⟨g, 0, none⟩) n cap, .int .i64 k0] w fun e w' => e = .returned (.int .i64 ((k0 + n : Nat) : Int)) ∧ w.grownBy w' (some g) ∧ (∀ g' m, RowC w g' m → RowC w' g' m) := by
  go_enter Try.func11, Try.ntmps11
  go_wp2
  go_loopw [1, 5] (fun kv i wr => ∃ j : Nat, j ≤ n ∧ i = .int .i64 j ∧ kv = .int .i64 ((k0 + j : Nat) : Int) ∧ RowC wr g n ∧ w.grownBy wr (some g) ∧ (∀ g' m, RowC w g' m → RowC wr g' m)) (fun _ i _ => n - (intOf i).toNat)
  case atStart => exact ⟨0, Nat.zero_le _, rfl, rfl, h, grownG_refl _ _, fun _ _ h => h⟩
  case round =>
    obtain ⟨j, hj, rfl, rfl, hrow, hg, hm⟩ := hrel
    by_cases hlt : j < n
    · obtain ⟨⟨u0, c0⟩, f0⟩ := hrow.2 j hlt
      obtain ⟨b, hb⟩ : ∃ b : Int, ((k0 : Int) + (j : Int)) % 256 = b := ⟨_, rfl⟩
      have HR := hide (hrow.set j (.int .u8 b))
      have HG := hide (grownG_set hg j (.int .u8 b))
      have HM := hide (fun g' m (hh : RowC w g' m) => (hm g' m hh).setAny g j (.int .u8 b))
      clear hrow hg hm
      go_wp2
      go_roundw
      case rel => exact ⟨j + 1, by omega, by go_num, by go_num, HR.out, HG.out, HM.out⟩
      case measure => simp [intOf]; omega
    · go_wp2
      go_ret
      have hjn : j = n := by omega
      subst hjn
      exact ⟨rfl, hg, hm⟩

set_option maxHeartbeats 1000000 in
theorem markByteSS_any (N hi cap : Nat) (ls : List (List UInt8)) (w : World) (h : NewSS w N hi ls) (hl : ls.length ≤ 1048576) (hs : sumB ls ≤ 1048576) :
    Calls Try.prog 10 #[.slice (some ⟨N, 0, none⟩) ls.length cap, .int .i64 1] w fun e w' => e = .returned (.int .i64 ((1 + sumB ls : Nat) : Int)) ∧ Within N hi w w' := by
  obtain ⟨hN, Ns, hrow, hnew⟩ := h
  have hC : ∀ j, j < ls.length → RowC w (Ns j) (ls.getD j []).length := fun j hj => ⟨World.rowIs.lt (hnew j hj).2.2, fun i hi => ⟨⟨_, World.rowIs.cell (hnew j hj).2.2 hi⟩, World.rowIs.frozen (hnew j hj).2.2 i⟩⟩
  have HB := hide (fun j (hj : j < ls.length) => (⟨(hnew j hj).1, (hnew j hj).2.1⟩ : N < Ns j ∧ Ns j < hi))
  have HC := hide hC
  clear hnew hC
  go_enter Try.func10, Try.ntmps10
  go_wp2
  go_loopw [1, 5] (fun kv i wr => ∃ j : Nat, j ≤ ls.length ∧ i = .int .i64 j ∧ kv = .int .i64 ((1 + sumB (ls.take j) : Nat) : Int) ∧ wr.rowIs N 24 ls.length (fun j => .slice (some ⟨Ns j, 0, none⟩) (ls.getD j []).length (ls.getD j []).length) ∧ Within N hi w wr ∧ (∀ g' m, RowC w g' m → RowC wr g' m)) (fun _ i _ => ls.length - (intOf i).toNat)
  case atStart => exact ⟨0, Nat.zero_le _, rfl, rfl, hrow, Within.refl _ _ _, fun _ _ h => h⟩
  case round =>
    obtain ⟨j, hj, rfl, rfl, hr, hg, hm⟩ := hrel
    by_cases hlt : j < ls.length
    · have hd : ls.getD j [] = ls[j] := by simp [List.getD, List.getElem?_eq_getElem hlt]
      have hcx := hr.cell hlt
      have h1 := sumB_at ls j hlt
      have h2 := sumB_le ls j
      have h3 := sumB_snoc ls j hlt
      have hrc := hm _ _ (HC.out j hlt)
      rw [hd] at hcx hrc
      obtain ⟨hb1, hb2⟩ := HB.out j hlt
      have HMk := hide (markByteS_from (Ns j) (ls[j]).length (ls[j]).length (1 + sumB (ls.take j)) wr hrc (by omega) (by omega))
      have HR := hide hr
      have HG := hide hg
      have HM := hide hm
      have HS := hide h3
      have HL : Hid (N < wr.heap.size) := hr.lt
      clear hr hg hm hrc hd h3
      go_wp2_with fail
      refine HMk.out.mono ?_
      rintro e w1 ⟨rfl, g1, m1⟩
      have HR1 := hide (World.rowIs.of_block HR.out (g1.block N HL.out (fun e => by have := Option.some.inj e; omega)))
      have HG1 := hide (HG.out.trans (Within.of_grown g1 (Nat.le_of_lt hb1) hb2))
      have HM1 := hide (fun g' m hh => m1 g' m (HM.out g' m hh))
      have HK : (1 + sumB (ls.take j) + (ls[j]).length : Nat) = 1 + sumB (ls.take (j + 1)) := by rw [HS.out]; omega
      rw [HK]
      clear g1 m1 HMk
      go_wp2
      go_roundw
      case rel => exact ⟨j + 1, by omega, by go_num, rfl, HR1.out, HG1.out, HM1.out⟩
      case measure => simp [intOf]; omega
    · go_wp2
      go_ret
      exact ⟨by rw [sumB_all ls j hlt]; rfl, hg⟩
end Go.Proofs.Ytkhnkockdfmkgab
