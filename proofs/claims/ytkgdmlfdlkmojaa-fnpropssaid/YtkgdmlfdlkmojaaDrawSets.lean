/-
  Sets that are drawn: few, and short.
-/
import Derived.Test.YtkgdmlfdlkmojaaDrawProp
import Derived.Test.YtkgdmlfdlkmojaaRowsV
import Derived.Test.YtkgdmlfdlkmojaaSpecNum
import Derived.Test.YtkgdmlfdlkmojaaMathBack
namespace Go.Proofs.Ytkgdmlfdlkmojaa
open Go.RowKit M
set_option linter.unusedVariables false

/-- Few sets, each short. -/
def FewS (n : Nat) (ss : List Sx) : Prop := ss.length ≤ n ∧ ∀ s ∈ ss, FewP s.2
theorem FewS.snoc {n : Nat} {ss : List Sx} {s : Sx} (h : FewS n ss) (hs : FewP s.2) : FewS (n + 1) (ss ++ [s]) := ⟨by have := h.1; simp; omega, fun x hx => by
  rcases List.mem_append.1 hx with hx | hx
  · exact h.2 x hx
  · simp at hx; subst hx; exact hs⟩
theorem FewS.mono {n m : Nat} {ss : List Sx} (h : FewS n ss) (hm : n ≤ m) : FewS m ss := ⟨Nat.le_trans h.1 hm, h.2⟩

set_option maxRecDepth 100000 in
set_option maxHeartbeats 4000000 in
theorem l12Sets_any {w : World} {N : Nat} {a : Option Addr} {len cap : Nat} {zs : List Int} (h : DX w N a len cap zs) :
    Calls Try.prog 69 #[.pointer (some ⟨N, 0, none⟩)] w fun e w' => (∃ (ss : List Sx) (g n c : Nat), FewS 3 ss ∧ e = .returned (.slice (some ⟨g, 0, none⟩) n c) ∧ OwnV w' w.heap.size (.slice (some ⟨g, 0, none⟩) n c) ss) ∧ DX w' N a len cap zs ∧ w.grownBy w' (some N) := by
  have hlt := h.lt
  have H := hide h
  have HM := hide (OwnV.made w w.heap.size (Nat.le_refl _))
  clear h
  go_enter Try.func69, Try.ntmps69
  go_wp2_with fail
  refine (l1BelowX (H.out.alloc _) 4 (by decide) (by decide)).mono ?_
  rintro e w1 ⟨⟨k0, rfl, hk0⟩, hd1, hg1⟩
  have HG := hide (grown_trans (grown_alloc (grown_refl w (some N)) _) hg1)
  have HO1 := hide (HM.out.grown hg1 hlt)
  have HD := hide hd1
  clear hg1 hd1
  go_wp2
  go_loopw [3, 4] (fun v i wr => ∃ (k : Nat) (ss : List Sx) (n g c : Nat), i = .int .i64 k ∧ k + ss.length ≤ 3 ∧ v = .slice (some ⟨g, 0, none⟩) n c ∧ Hid (FewS ss.length ss) ∧ OwnV wr w.heap.size (.slice (some ⟨g, 0, none⟩) n c) ss ∧ Hid (DX wr N a len cap zs) ∧ Hid (w.grownBy wr (some N))) (fun _ i _ => (intOf i).toNat)
  case atStart => exact ⟨k0, [], 0, w.heap.size, 0, rfl, by simp; omega, rfl, hide ⟨Nat.le_refl _, fun _ h => by cases h⟩, HO1.out, HD, HG⟩
  case round =>
    obtain ⟨k, ss, n, g, c, rfl, hk3, rfl, hf, hown, HD2, HG2⟩ := hrel
    by_cases h0 : 0 < k
    · have h0' : (0 : Int) < k := by omega
      go_wp2_with fail
      refine (l1OnceQ HD2.out 3 (by decide) (by decide)).mono ?_
      rintro e w2 ⟨⟨b, rfl⟩, hd3, hg3⟩
      have hO3 := hown.grown hg3 hlt
      have HD3 := hide hd3
      have HG3 := hide (grown_trans HG2.out hg3)
      clear hd3 hg3 hown HD2 HG2
      go_wp2_with fail
      refine (l10OneProp_any HD3.out).mono ?_
      rintro e w3 ⟨⟨p, rfl, hp⟩, hd4, hg4⟩
      have hO4 := hO3.grown hg4 hlt
      have HG4 := hide (grown_trans HG3.out hg4)
      have hsz := HG4.out.size
      have HFP := hide hp
      clear hg4 hO3 HD3 HG3 hp
      have hss : ss.length + 1 ≤ 1099511627776 := by omega
      cases b
      · have bA := (Below.refl w3.heap.size w3).alloc (Nat.le_refl _) (Obj.cells #[.bool false, .string p.1, .string p.2.1, .string p.2.2] 38)
        have bB := bA.alloc bA.size (Obj.cells #[.bool false, .string p.1, .string p.2.1, .string p.2.2] 38)
        have HOA := hide (hO4.next bB)
        have HDA := hide (hd4.below bB)
        have HGA := hide (grown_belowQ HG4.out bB hsz)
        have hszB := HGA.out.size
        clear bA bB hO4 hd4
        go_wp2_with (at_builtin; refine wp_append_set rfl _ _ rfl w.heap.size _ ss rfl HOA.out _ (false, p) rfl ?_ ?_ ?_ ?_ hss hszB ?_)
        intro g5 n5 c5 w5 hn5 hO5 hb5
        have HD5 := hide (HDA.out.other hb5.size (fun i hi => hb5.block i (by omega)))
        have HG5 := hide (grown_belowQ HGA.out hb5 (Nat.le_refl _))
        have HF5 := hide (show FewS (ss ++ [(false, p)]).length (ss ++ [(false, p)]) by rw [List.length_append]; exact hf.out.snoc HFP.out)
        clear hb5 hn5 HDA HGA HOA
        go_wp2
        go_roundw
        case rel => exact ⟨k - 1, ss ++ [(false, p)], n5, g5, c5, by first | go_num | (congr 1; omega), by simp; omega, rfl, HF5, hO5, HD5, HG5⟩
        case measure => simp [intOf]; omega
      · have bA := (Below.refl w3.heap.size w3).alloc (Nat.le_refl _) (Obj.cells #[.bool true, .string p.1, .string p.2.1, .string ⟨#[]⟩] 38)
        have bB := bA.alloc bA.size (Obj.cells #[.bool true, .string p.1, .string p.2.1, .string ⟨#[]⟩] 38)
        have HOA := hide (hO4.next bB)
        have HDA := hide (hd4.below bB)
        have HGA := hide (grown_belowQ HG4.out bB hsz)
        have hszB := HGA.out.size
        clear bA bB hO4 hd4
        go_wp2_with (at_builtin; refine wp_append_set rfl _ _ rfl w.heap.size _ ss rfl HOA.out _ (true, (p.1, p.2.1, ⟨#[]⟩)) rfl ?_ ?_ ?_ ?_ hss hszB ?_)
        intro g5 n5 c5 w5 hn5 hO5 hb5
        have HD5 := hide (HDA.out.other hb5.size (fun i hi => hb5.block i (by omega)))
        have HG5 := hide (grown_belowQ HGA.out hb5 (Nat.le_refl _))
        have HF5 := hide (show FewS (ss ++ [(true, (p.1, p.2.1, (⟨#[]⟩ : ByteArray)))]).length (ss ++ [(true, (p.1, p.2.1, ⟨#[]⟩))]) by rw [List.length_append]; exact hf.out.snoc ⟨HFP.out.1, HFP.out.2.1, Nat.zero_le _⟩)
        clear hb5 hn5 HDA HGA HOA
        go_wp2
        go_roundw
        case rel => exact ⟨k - 1, ss ++ [(true, (p.1, p.2.1, ⟨#[]⟩))], n5, g5, c5, by first | go_num | (congr 1; omega), by simp; omega, rfl, HF5, hO5, HD5, HG5⟩
        case measure => simp [intOf]; omega
    · have hk : k = 0 := by omega
      subst hk
      go_wp2
      go_ret
      exact ⟨⟨ss, g, n, c, hf.out.mono (by omega), rfl, hown⟩, HD2.out, HG2.out⟩

def nsX : List ByteArray := [⟨#[122]⟩, ⟨#[1]⟩]
def nmX : List ByteArray := [⟨#[97]⟩, ⟨#[65]⟩]
def vlX : List ByteArray := [⟨#[120]⟩, ⟨#[116, 119, 101, 110, 116, 121, 45, 111, 110, 101, 45, 98, 121, 116, 101, 115, 45, 116, 101, 120, 116]⟩]
theorem numI_size (k : Nat) (hk : k < 5) : ((⟨#[110]⟩ : ByteArray) ++ (⟨(Lib.decDigits k).toArray⟩ : ByteArray)).size ≤ 30 := by
  have h : (Lib.decDigits k).length ≤ 1 := dec_len 0 k (by omega)
  rw [ByteArray.size_append]
  have e1 : (⟨#[110]⟩ : ByteArray).size = 1 := rfl
  have e2 : (⟨(Lib.decDigits k).toArray⟩ : ByteArray).size = (Lib.decDigits k).length := by simp [ByteArray.size]
  omega

set_option maxRecDepth 100000 in
set_option maxHeartbeats 4000000 in
theorem l12Any_any {w : World} {N : Nat} {a : Option Addr} {len cap : Nat} {zs : List Int} (h : DX w N a len cap zs) :
    Calls Try.prog 37 #[.pointer (some ⟨N, 0, none⟩)] w fun e w' => (∃ (ss : List Sx) (g n c : Nat), FewS 8 ss ∧ e = .returned (.slice (some ⟨g, 0, none⟩) n c) ∧ OwnV w' w.heap.size (.slice (some ⟨g, 0, none⟩) n c) ss) ∧ DX w' N a len cap zs ∧ w.grownBy w' (some N) := by
  have hlt := h.lt
  have H := hide h
  clear h
  go_enter Try.func37, Try.ntmps37
  go_wp2_with fail
  refine (l12Sets_any H.out).mono ?_
  rintro e w1 ⟨⟨ss, g, n, c, hf, rfl, hO1⟩, hd1, hg1⟩
  have HF := hide hf
  have HD1 := hide hd1
  have HG1 := hide hg1
  have hs3 : ss.length ≤ 3 := hf.1
  clear hf hd1 hg1 H
  go_wp2_with fail
  refine (l1BelowX HD1.out 6 (by decide) (by decide)).mono ?_
  rintro e w2 ⟨⟨k, rfl, hk⟩, hd2, hg2⟩
  have hO2 := hO1.grown hg2 hlt
  have HD2 := hide hd2
  have HG2 := hide (grown_trans HG1.out hg2)
  clear hd2 hg2 hO1 HD1 HG1
  by_cases k0 : k = 0
  · subst k0
    go_wp2_with fail
    refine (l1OnceQ HD2.out 2 (by decide) (by decide)).mono ?_
    rintro e w3 ⟨⟨b, rfl⟩, hd3, hg3⟩
    have hO3 := hO2.grown hg3 hlt
    have HD3 := hide hd3
    have HG3 := hide (grown_trans HG2.out hg3)
    clear hd3 hg3 hO2 HD2 HG2
    go_wp2_with fail
    refine (strNewQ HD3.out 30 nsX _ _ 2 _ rfl rfl rfl (by decide) (by decide) (by decide)).mono ?_
    rintro e w4 ⟨⟨s1, rfl, hs1⟩, hd4, hg4⟩
    have hO4 := hO3.grown hg4 hlt
    have HD4 := hide hd4
    have HG4 := hide (grown_trans HG3.out hg4)
    clear hd4 hg4 hO3 HD3 HG3
    go_wp2_with fail
    refine (strNewQ HD4.out 30 nmX _ _ 2 _ rfl rfl rfl (by decide) (by decide) (by decide)).mono ?_
    rintro e w5 ⟨⟨s2, rfl, hs2⟩, hd5, hg5⟩
    have hO5 := hO4.grown hg5 hlt
    have HD5 := hide hd5
    have HG5 := hide (grown_trans HG4.out hg5)
    clear hd5 hg5 hO4 HD4 HG4
    go_wp2_with fail
    refine (strNewQ HD5.out 30 vlX _ _ 2 _ rfl rfl rfl (by decide) (by decide) (by decide)).mono ?_
    rintro e w6 ⟨⟨s3, rfl, hs4⟩, hd6, hg6⟩
    have hO6 := hO5.grown hg6 hlt
    have HG6 := hide (grown_trans HG5.out hg6)
    have hsz := HG6.out.size
    have bA := (Below.refl w6.heap.size w6).alloc (Nat.le_refl _) (Obj.cells #[.bool b, .string s1, .string s2, .string s3] 38)
    have HOA := hide (hO6.next bA)
    have HDA := hide (hd6.below bA)
    have HGA := hide (grown_belowQ HG6.out bA hsz)
    have hszA := HGA.out.size
    have hss : ss.length + 1 ≤ 1099511627776 := by omega
    clear hd6 hg6 hO5 HD5 HG5 bA hO6
    go_wp2_with (at_builtin; refine wp_append_set rfl _ _ rfl w.heap.size _ ss rfl HOA.out _ (b, (s1, s2, s3)) rfl ?_ ?_ ?_ ?_ hss hszA ?_)
    intro g7 n7 c7 w7 hn7 hO7 hb7
    have HD7 := hide (HDA.out.other hb7.size (fun i hi => hb7.block i (by omega)))
    have HG7 := hide (grown_belowQ HGA.out hb7 (Nat.le_refl _))
    have HF7 := hide (show FewS 8 (ss ++ [(b, (s1, s2, s3))]) from (HF.out.snoc ⟨hs1, hs2, hs4⟩).mono (by decide))
    clear hb7 hn7
    go_wp2
    go_ret
    exact ⟨⟨_, g7, n7, c7, HF7.out, rfl, hO7⟩, HD7.out, HG7.out⟩
  · have e0 : ((k : Int) == 0) = false := by rw [beq_eq_false_iff_ne]; omega
    by_cases k1 : k = 1
    · subst k1
      clear e0 k0
      go_wp2
      go_loopw [3, 4] (fun v i wr => ∃ (m : Nat) (tt : List Sx) (n g c : Nat), i = .int .i64 m ∧ m ≤ 5 ∧ tt.length ≤ 3 + m ∧ v = .slice (some ⟨g, 0, none⟩) n c ∧ Hid (FewS (3 + m) tt) ∧ OwnV wr w.heap.size (.slice (some ⟨g, 0, none⟩) n c) tt ∧ Hid (DX wr N a len cap zs) ∧ Hid (w.grownBy wr (some N))) (fun _ i _ => 5 - (intOf i).toNat)
      case atStart => exact ⟨0, ss, n, g, c, rfl, by omega, hs3, rfl, HF, hO2, HD2, HG2⟩
      case round =>
        obtain ⟨m, tt, n3, g3, c3, rfl, hm5, htl, rfl, hf3, hO3, HD3, HG3⟩ := hrel
        by_cases hlt5 : m < 5
        · have hmi : (m : Int) < 5 := by omega
          have HNT := hide (specNumText_any (m : Int) wr (by omega))
          rw [Int.toNat_natCast] at HNT
          have hsz := HG3.out.size
          have hns := numI_size m hlt5
          obtain ⟨d, hd⟩ : ∃ d : ByteArray, (⟨(Lib.decDigits m).toArray⟩ : ByteArray) = d := ⟨_, rfl⟩
          rw [hd] at HNT hns
          have hdz : d.size ≤ 30 := by rw [ByteArray.size_append] at hns; omega
          have HNS := hide hns
          clear hd hns
          have h63 : ¬ (9223372036854775807 < ({ data := #[110] } : ByteArray).size + d.size) := by have e1 : (⟨#[110]⟩ : ByteArray).size = 1 := rfl; omega
          go_wp2_with fail
          refine HNT.out.mono ?_
          rintro e w4 ⟨rfl, b4⟩
          have hO4 := hO3.next b4
          have HD4 := hide (HD3.out.below b4)
          have HG4 := hide (grown_belowQ HG3.out b4 hsz)
          have hsz4 := HG4.out.size
          have bA := (Below.refl w4.heap.size w4).alloc (Nat.le_refl _) (Obj.cells #[.bool false, .string ⟨#[]⟩, .string ((⟨#[110]⟩ : ByteArray) ++ d), .string ⟨#[]⟩] 38)
          have HOA := hide (hO4.next bA)
          have HDA := hide (HD4.out.below bA)
          have HGA := hide (grown_belowQ HG4.out bA hsz4)
          have hszA := HGA.out.size
          have hss : tt.length + 1 ≤ 1099511627776 := by omega
          clear bA hO4 HD4 HG4 HNT b4 hO3
          go_wp2_with (at_builtin; refine wp_append_set rfl _ _ rfl w.heap.size _ tt rfl HOA.out _ (false, (⟨#[]⟩, ((⟨#[110]⟩ : ByteArray) ++ d), ⟨#[]⟩)) rfl ?_ ?_ ?_ ?_ hss hszA ?_)
          intro g5 n5 c5 w5 hn5 hO5 hb5
          have HD5 := hide (HDA.out.other hb5.size (fun i hi => hb5.block i (by omega)))
          have HG5 := hide (grown_belowQ HGA.out hb5 (Nat.le_refl _))
          have HF5 := hide (show FewS (3 + (m + 1)) (tt ++ [(false, ((⟨#[]⟩ : ByteArray), ((⟨#[110]⟩ : ByteArray) ++ d), (⟨#[]⟩ : ByteArray)))]) from (hf3.out.snoc ⟨Nat.zero_le _, HNS.out, Nat.zero_le _⟩))
          clear hb5 hn5
          go_wp2
          go_roundw
          case rel => exact ⟨m + 1, _, n5, g5, c5, by go_num, by omega, by have := HF5.out.1; omega, rfl, HF5, hO5, HD5, HG5⟩
          case measure => simp [intOf]; omega
        · go_wp2
          go_ret
          exact ⟨⟨tt, g3, n3, c3, hf3.out.mono (by omega), rfl, hO3⟩, HD3.out, HG3.out⟩
    · have e1 : ((k : Int) == 1) = false := by rw [beq_eq_false_iff_ne]; omega
      go_wp2
      go_ret
      exact ⟨⟨ss, g, n, c, HF.out.mono (by decide), rfl, hO2⟩, HD2.out, HG2.out⟩
end Go.Proofs.Ytkgdmlfdlkmojaa
