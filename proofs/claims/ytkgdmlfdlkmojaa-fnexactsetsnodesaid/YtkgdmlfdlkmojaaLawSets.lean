/-
  What the laws' own helps on sets do: sizes, copies.
-/
import Derived.Test.YtkgdmlfdlkmojaaSets
import Derived.Test.YtkgdmlfdlkmojaaLawProps
namespace Go.Proofs.Ytkgdmlfdlkmojaa
open Go.RowKit M
set_option linter.unusedVariables false

set_option maxHeartbeats 1000000 in
theorem szSet_any (d : Bool) (x y z : ByteArray) (left : Nat) (w : World) (h1 : x.size ≤ maxLen) (h2 : y.size ≤ maxLen) (h3 : z.size ≤ maxLen) (hleft : left ≤ 1048576) :
    Calls Try.prog 51 #[.agg #[.bool d, .string x, .string y, .string z], .int .i64 left] w fun e w' => (∃ v : Int, e = .returned (.int .i64 v) ∧ (v < 0 ∨ ∃ m : Nat, v = m ∧ x.size + y.size + z.size + m = left)) ∧ Below w.heap.size w w' := by
  have HB0 := hide (show Below w.heap.size w (w.alloc (Obj.cells #[.bool d, .string x, .string y, .string z] 87)) from (Below.refl _ _).alloc (Nat.le_refl _) _)
  have HS := hide (fun W => szProp_any x y z left W h1 h2 h3 hleft)
  go_enter Try.func51, Try.ntmps51
  go_wp2_with fail
  refine (HS.out _).mono ?_
  rintro e w1 ⟨⟨v, rfl, hv⟩, b1⟩
  have c1 := HB0.out.trans (b1.mono HB0.out.size)
  have HV := hide hv
  clear hv
  by_cases hn : v < 0
  · go_wp2
    go_ret
    exact ⟨⟨_, rfl, .inl (by omega)⟩, c1⟩
  · go_wp2
    go_ret
    exact ⟨⟨_, rfl, HV.out⟩, c1⟩

set_option maxHeartbeats 1000000 in
theorem szSetS_any (a : Option Addr) (ps : List Sx) (cap B left : Nat) (w : World) (h : Sts w B a ps) (hB : B ≤ w.heap.size) (hsh : ShortSs ps) (hl : ps.length ≤ maxLen) (hleft : left ≤ 1048576) :
    Calls Try.prog 17 #[.slice a ps.length cap, .int .i64 left] w fun e w' => (∃ z : Int, e = .returned (.int .i64 z) ∧ (z < 0 ∨ ∃ m : Nat, z = m ∧ ps.length + sumT ps + m = left)) ∧ Below w.heap.size w w' := by
  unfold maxLen at hl
  by_cases hlt0 : left < ps.length
  · go_enter Try.func17, Try.ntmps17
    go_wp2
    go_ret
    exact ⟨⟨_, rfl, .inl (by omega)⟩, Below.refl _ _⟩
  · go_enter Try.func17, Try.ntmps17
    go_wp2
    go_loopw [1, 5] (fun l i wr => ∃ k m : Nat, k ≤ ps.length ∧ i = .int .i64 k ∧ l = .int .i64 m ∧ ps.length + sumT (ps.take k) + m = left ∧ Below w.heap.size w wr) (fun _ i _ => ps.length - (intOf i).toNat)
    case atStart => exact ⟨0, left - ps.length, Nat.zero_le _, rfl, by congr 1; omega, by simp [sumT]; omega, Below.refl _ _⟩
    case round =>
      obtain ⟨k, m, hk, rfl, rfl, hm, hbe⟩ := hrel
      by_cases hlt : k < ps.length
      · obtain ⟨b, o, rfl, hb, hc⟩ := (h.below hbe hB) (by omega)
        obtain ⟨hcd, hcx, hcy, hcz⟩ := hc k hlt
        have hsz := hsh.at k hlt
        have HS2 := hide (sumT_snoc ps k hlt)
        have HM : Hid (ps.length + sumT (ps.take k) + m = left) := hm
        clear hm
        have hm1 : m ≤ 1048576 := by have := HM.out; omega
        go_wp2_with fail
        refine (szSet_any ps[k].1 ps[k].2.1 ps[k].2.2.1 ps[k].2.2.2 m wr hsz.1 hsz.2.1 hsz.2.2 hm1).mono ?_
        rintro e w1 ⟨⟨z, rfl, hz⟩, hb1⟩
        have c1 := hbe.trans (hb1.mono hbe.size)
        rcases hz with hz | ⟨m', rfl, hm'⟩
        · go_wp2
          go_ret
          exact ⟨⟨_, rfl, .inl (by omega)⟩, c1⟩
        · have HM' : Hid ((ps[k]).2.1.size + (ps[k]).2.2.1.size + (ps[k]).2.2.2.size + m' = m) := hm'
          clear hm'
          go_wp2
          go_roundw
          case rel => exact ⟨k + 1, m', by omega, by go_num, rfl, by rw [HS2.out]; have := HM.out; have := HM'.out; unfold szT szP; omega, c1⟩
          case measure => simp [intOf]; omega
      · go_wp2
        go_ret
        exact ⟨⟨m, rfl, .inr ⟨m, rfl, by rw [List.take_of_length_le (by omega)] at hm; exact hm⟩⟩, hbe⟩

set_option maxHeartbeats 1000000 in
theorem toSet_any (d : Bool) (x y z : ByteArray) (w : World) :
    Calls Try.prog 53 #[.agg #[.bool d, .string x, .string y, .string z]] w fun e w' => e = .returned (.agg #[.bool d, .string x, .string y, .string z]) ∧ Below w.heap.size w w' := by
  have HT := hide (fun W => toProp_any x y z W)
  go_enter Try.func53, Try.ntmps53
  go_wp2_with fail
  have hb0 : Below w.heap.size w (((w.alloc (Obj.cells #[.bool d, .string x, .string y, .string z] 87)).alloc (Obj.cells #[.bool false, .string { data := #[] }, .string { data := #[] }, .string { data := #[] }] 38)).alloc (Obj.cells #[.bool d, .string { data := #[] }, .string { data := #[] }, .string { data := #[] }] 38)) := (((Below.refl _ _).alloc (Nat.le_refl _) _).alloc (by simp) _).alloc (by simp; omega) _
  refine (HT.out _).mono ?_
  rintro e w1 ⟨rfl, hb1⟩
  have HB1 := hide (hb0.trans (hb1.mono hb0.size))
  obtain ⟨hc, hf⟩ := bcellP hb1
  clear hb0 hb1
  go_wp2
  refine bodyPost_ret (v := .agg #[.bool d, .string x, .string y, .string z]) (by simp [results, Try.results53, go_sem, hc]) rfl ⟨rfl, ?_⟩
  exact ((((((HB1.out.setCell (by simp; omega) _).setCell (by simp; omega) _).setCell (by simp; omega) _).setCell (by simp) _).setCell (by simp) _).setCell (by simp) _).setCell (by simp) _

set_option maxHeartbeats 1000000 in
theorem toSetS_any (a : Option Addr) (ps : List Sx) (cap B : Nat) (w : World) (h : Sts w B a ps) (hB : B ≤ w.heap.size) (hl : ps.length ≤ 1048576) :
    Calls Try.prog 19 #[.slice a ps.length cap] w fun e w' => e = .returned (.slice (some ⟨w.heap.size, 0, none⟩) ps.length ps.length) ∧ RowU w' w.heap.size ps ∧ Below w.heap.size w w' := by
  have hmk := run_make_sets ps.length hl w
  go_enter Try.func19, Try.ntmps19
  go_wp2
  clear hmk
  go_loopw [4] (fun i wr => ∃ k : Nat, k ≤ ps.length ∧ i = .int .i64 k ∧ MadeU wr w.heap.size ps k ∧ Below w.heap.size w wr) (fun i _ => ps.length - (intOf i).toNat)
  case atStart => exact ⟨0, Nat.zero_le _, rfl, MadeU.start w ps, (Below.refl _ _).alloc (Nat.le_refl _) _⟩
  case round =>
    obtain ⟨k, hk, rfl, hrow, hbe⟩ := hrel
    by_cases hlt : k < ps.length
    · obtain ⟨b, o, rfl, hb, hc⟩ := (h.below hbe hB) (by omega)
      obtain ⟨hcd, hcx, hcy, hcz⟩ := hc k hlt
      clear hc
      go_wp2_with fail
      refine (toSet_any ps[k].1 ps[k].2.1 ps[k].2.2.1 ps[k].2.2.2 wr).mono ?_
      rintro e w1 ⟨rfl, hb1⟩
      have c1 := hbe.trans (hb1.mono hbe.size)
      have hrow1 := hrow.below hb1
      obtain ⟨v0, v1, v2, v3, hd0, hd1, hd2, hd3, hf0, hf1, hf2, hf3⟩ := hrow1.cells hlt
      have HR := hide (hrow1.next hlt)
      clear hrow1 hrow
      go_wp2
      go_roundw
      case rel => exact ⟨k + 1, by omega, by go_num, HR.out, (((c1.setCell (Nat.le_refl _) _).setCell (Nat.le_refl _) _).setCell (Nat.le_refl _) _).setCell (Nat.le_refl _) _⟩
      case measure => simp [intOf]; omega
    · go_wp2
      go_ret
      exact ⟨rfl, hrow.done hlt, hbe⟩
end Go.Proofs.Ytkgdmlfdlkmojaa
