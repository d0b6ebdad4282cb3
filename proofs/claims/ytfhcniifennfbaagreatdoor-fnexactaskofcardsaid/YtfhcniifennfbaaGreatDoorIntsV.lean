/-
  Rows of numbers that a call makes.
  What spec.Submitted does.
  What impl.Submitted does.
  Submitted on both sides, over views.
  Slices of numbers: what they hold, and that it stays.
  Whether a number is one of a list.
  What spec.l13Has does.
  What spec.EvalIf does.
  What slices.Contains at numbers does.
  What impl.EvalIf does: closures that are asked of tokens and a mark.
  What impl.EvalIf does, the calls of the closures.
  A view of numbers.
-/
import Derived.Test.YtfhcniifennfbaaGreatDoorProg
import Derived.Test.YtfhcniifennfbaaGreatDoorMathMark2
import Derived.WalkKit
import Derived.Test.YtfhcniifennfbaaGreatDoorRows
import Derived.Deep.OwnRows
import Derived.Test.YtfhcniifennfbaaGreatDoorSliceEq
import Derived.Deep.RegionHeld3
namespace Go.Proofs.YtfhcniifennfbaaGreatDoor
open Go.RowKit M
set_option linter.unusedVariables false

def ci (n : Int) : List Value := [.int .i64 n]
theorem ci_len : ∀ x, (ci x).length = 1 := fun _ => rfl
theorem infoI : (Tryz.prog.info? 3).map (fun i => (i.zero, i.size, i.bytes)) = some (some (.int .i64 0), 1, 8) := by kernel_rfl
theorem view_of_ints {w : World} {B g n c : Nat} {l : List Int} (h : OwnG 3 1 ci w B (.slice (some ⟨g, 0, none⟩) n c) l) : View w w.heap.size (.slice (some ⟨g, 0, none⟩) n c) (.l (l.map dI)) := by
  obtain ⟨e1, e2, e3, e4, e5, e6, e7⟩ := h.row ci_len
  have e : n = (l.map dI).length := by rw [List.length_map]; exact e1
  rw [e]
  refine .row g 0 c 1 _ (fun j i => match l[j]? with | some s => .int .i64 s | none => .bool false) e5 (by rw [← e]; exact e2) e3 (fun r hr => by obtain ⟨x, _, rfl⟩ := List.mem_map.1 hr; rfl) (fun j i x hx => ?_) (fun j i x hx => ?_)
  all_goals
    unfold cellAt at hx
    by_cases hj : j < l.length
    · rw [map_at dI l j hj] at hx
      match i with
      | 0 => cases hx; rw [List.getElem?_eq_getElem hj]; first | exact .c _ | (have := e7 j hj 0 _ rfl; simpa using this)
      | i + 1 => cases hx
    · rw [List.getElem?_eq_none (by simp; omega)] at hx; cases hx

theorem own_of_ints {w : World} {B g n c : Nat} {l : List Int} (h : OwnG 3 1 ci w B (.slice (some ⟨g, 0, none⟩) n c) l) : Own w (.slice (some ⟨g, 0, none⟩) n c) (.l (l.map dI)) (fun y => y = g) := by
  obtain ⟨e1, e2, e3, e4, e5, e6, e7⟩ := h.row ci_len
  have e : n = (l.map dI).length := by rw [List.length_map]; exact e1
  rw [e]
  refine .row g 0 c 1 _ (fun j i => match l[j]? with | some s => .int .i64 s | none => .bool false) (fun _ _ _ => False) _ rfl e5 (by rw [← e]; exact e2) e3 (fun r hr => by obtain ⟨x, _, rfl⟩ := List.mem_map.1 hr; rfl) (fun j i x hx => ?_) (fun j i x hx => ?_) (fun j i y hy => hy.elim) (fun j i j' i' y _ hy => hy.elim)
  all_goals
    unfold cellAt at hx
    by_cases hj : j < l.length
    · rw [map_at dI l j hj] at hx
      match i with
      | 0 => cases hx; rw [List.getElem?_eq_getElem hj]; first | exact .c _ _ | (have := e7 j hj 0 _ rfl; exact ⟨by simpa using this, e6 _⟩)
      | i + 1 => cases hx
    · rw [List.getElem?_eq_none (by simp; omega)] at hx; cases hx
end Go.Proofs.YtfhcniifennfbaaGreatDoor
namespace Go.Proofs.YtfhcniifennfbaaGreatDoor
open Go.RowKit M
set_option linter.unusedVariables false

set_option maxRecDepth 100000 in
set_option maxHeartbeats 4000000 in
theorem specSub_any (a : Option Addr) (ls : List (List Cn)) (cap B : Nat) (w : World) (h : Cnss w B a ls) (hB : B ≤ w.heap.size) (hl : ls.length ≤ 1048576) (hf : ls.flatten.length ≤ 1048576) :
    Calls Tryz.prog 53 #[.slice a ls.length cap] w fun e w' => (∃ g n c : Nat, e = .returned (.slice (some ⟨g, 0, none⟩) n c) ∧ OwnG 3 1 ci w' w.heap.size (.slice (some ⟨g, 0, none⟩) n c) (subI ls)) ∧ Below w.heap.size w w' := by
  have HH := hide h
  have HF := hide hf
  have HO := hide (OwnG.made (tE := 3) (K := 1) (cs := ci) w w.heap.size (Nat.le_refl _))
  clear h hf
  go_enter Tryz.func53, Tryz.ntmps53
  go_wp2
  go_loopw [3, 4] (fun v i wr => ∃ (k g n c : Nat) (ts : List Int), k ≤ ls.length ∧ i = .int .i64 k ∧ v = .slice (some ⟨g, 0, none⟩) n c ∧ Hid (OwnG 3 1 ci wr w.heap.size (.slice (some ⟨g, 0, none⟩) n c) ts) ∧ Hid (ts = subI (ls.take k)) ∧ Below w.heap.size w wr) (fun _ i _ => ls.length - (intOf i).toNat)
  case atStart => exact ⟨0, _, _, _, [], Nat.zero_le _, rfl, rfl, HO, (by show _ = _; simp [subI, subC]), (Below.refl _ _).alloc (Nat.le_refl _) _⟩
  case round =>
    obtain ⟨k, g, n, c, ts, hk, rfl, rfl, HOW, HTS, hbe⟩ := hrel
    by_cases hlt : k < ls.length
    · obtain ⟨b, o, rfl, hb, hc⟩ := HH.out (by omega)
      obtain ⟨pa, pc, hc0, hin⟩ := hc k hlt
      have HS := hide (subI_snoc ls k hlt)
      have hfk : ls[k].length ≤ 1048576 := Nat.le_trans (flat_here ls k hlt) HF.out
      have hts : ts.length ≤ 1048576 := by
        rw [HTS.out]
        have := subC_len (ls.take k).flatten
        have := subI_le ls k
        have := HF.out
        unfold subI
        omega
      obtain ⟨cs, hcs⟩ : ∃ cs, ls[k] = cs := ⟨_, rfl⟩
      rw [hcs] at HS hfk hin hc0
      have HIN := hide hin.ps
      clear hcs hc hin
      have hbw : b < w.heap.size := by omega
      go_wp2
      go_loopw [3, 5] (fun v q wr => ∃ (j g2 n2 c2 : Nat) (us : List Int), j ≤ cs.length ∧ q = .int .i64 j ∧ v = .slice (some ⟨g2, 0, none⟩) n2 c2 ∧ us.length ≤ 1048576 + j ∧ Hid (OwnG 3 1 ci wr w.heap.size (.slice (some ⟨g2, 0, none⟩) n2 c2) us) ∧ Hid (us = ts ++ subC (cs.take j)) ∧ Below w.heap.size w wr) (fun _ q _ => cs.length - (intOf q).toNat)
      case atStart => exact ⟨0, g, n, c, ts, Nat.zero_le _, rfl, rfl, by omega, HOW, (by show _ = _; simp [subC]), hbe⟩
      case round =>
        obtain ⟨j, g2, n2, c2, us, hj, rfl, rfl, hul, HOU, HUS, hbs⟩ := hrel
        by_cases hjl : j < cs.length
        · obtain ⟨b2, o2, rfl, hb2, hd⟩ := HIN.out (by omega)
          obtain ⟨d0, d1, d2⟩ := hd j hjl
          have hb2w : b2 < w.heap.size := by omega
          have HSJ := hide (subC_snoc cs j hjl)
          have e0 := (hbs.cell (p := ⟨b, o + k, none⟩) hbw).trans hc0
          have q0 := (hbs.cell (p := ⟨b2, o2 + j * 3, none⟩) hb2w).trans d0
          have q1 := (hbs.cell (p := ⟨b2, o2 + j * 3 + 1, none⟩) hb2w).trans d1
          have q2 := (hbs.cell (p := ⟨b2, o2 + j * 3 + 2, none⟩) hb2w).trans d2
          obtain ⟨x, hx⟩ : ∃ x, cs[j] = x := ⟨_, rfl⟩
          rw [hx] at HSJ q0 q1 q2
          have hs3 := hbs.size
          clear hx hd d0 d1 d2
          obtain ⟨no, tk, tg⟩ := x
          simp only at q0 q1 q2

          by_cases hz : tk = 0
          · subst hz
            have HSS := hide (show us = ts ++ subC (cs.take (j + 1)) by rw [HSJ.out, HUS.out]; simp [subB])
            go_wp2
            go_roundw
            case rel => exact ⟨j + 1, g2, n2, c2, us, by omega, by go_num, rfl, by omega, HOU, HSS, hbs⟩
            case measure => simp [intOf]; omega
          · have hz1 : (tk == 0) = false := by simpa using hz
            have hz2 : (tk != 0) = true := by simpa using hz
            cases no
            · have HSS := hide (show us ++ [tk] = ts ++ subC (cs.take (j + 1)) by rw [HSJ.out, HUS.out]; simp [subB, hz])
              clear hz
              have bA := (Below.refl wr.heap.size wr).alloc (Nat.le_refl _) (Obj.cells #[.int .i64 tk] 3)
              have HO3 := hide (HOU.out.next bA)
              have HC3 := hide (hbs.trans (bA.mono hbs.size))
              have hln : us.length + 1 ≤ 100000000000 := by omega
              have hs4 := HC3.out.size
              clear bA
              go_wp2_with (at_builtin; refine wp_append_gen 24 Tryz.underlying24 (.int .i64 0) 8 infoI rfl (by decide) (by decide) rfl _ _ rfl w.heap.size _ us rfl HO3.out ci_len _ tk rfl (fun i v hv => by match i with | 0 => (cases hv; simp) | i + 1 => cases hv) (fun v hv => by simp [ci] at hv; subst hv; rfl) hln hs4 ?_)
              intro g9 n9 c9 w9 hn9 hO9 hb9 hg9 _
              have HO9 := hide hO9
              have HB9 := hide (HC3.out.trans hb9)
              clear hO9 hb9 hg9 hn9 HO3 HC3
              go_wp2
              go_roundw
              case rel => exact ⟨j + 1, g9, n9, c9, _, by omega, by go_num, rfl, by simp; omega, HO9, HSS, HB9.out⟩
              case measure => simp [intOf]; omega
            · have HSS := hide (show us = ts ++ subC (cs.take (j + 1)) by rw [HSJ.out, HUS.out]; simp [subB])
              clear hz
              go_wp2
              go_roundw
              case rel => exact ⟨j + 1, g2, n2, c2, us, by omega, by go_num, rfl, by omega, HOU, HSS, hbs⟩
              case measure => simp [intOf]; omega
        · have HT := hide (show us = subI (ls.take (k + 1)) by rw [HS.out, HUS.out, HTS.out, show cs.take j = cs from List.take_of_length_le (by omega)])
          have e0 := (hbs.cell (p := ⟨b, o + k, none⟩) hbw).trans hc0
          go_wp2
          go_roundw
          case rel => exact ⟨k + 1, g2, n2, c2, us, by omega, by go_num, rfl, HOU, HT, hbs⟩
          case measure => simp [intOf]; omega
    · have HT := hide (show ls.take k = ls from List.take_of_length_le (by omega))
      go_wp2
      go_ret
      exact ⟨⟨_, _, _, rfl, by rw [← HT.out, ← HTS.out]; exact HOW.out⟩, hbe⟩
end Go.Proofs.YtfhcniifennfbaaGreatDoor
namespace Go.Proofs.YtfhcniifennfbaaGreatDoor
open Go.RowKit M
set_option linter.unusedVariables false

set_option maxRecDepth 100000 in
set_option maxHeartbeats 4000000 in
theorem sub_any (a : Option Addr) (ls : List (List Cn)) (cap B : Nat) (w : World) (h : Cnss w B a ls) (hB : B ≤ w.heap.size) (hl : ls.length ≤ 1048576) (hf : ls.flatten.length ≤ 1048576) :
    Calls Tryz.prog 67 #[.slice a ls.length cap] w fun e w' => (∃ g n c : Nat, e = .returned (.slice (some ⟨g, 0, none⟩) n c) ∧ OwnG 3 1 ci w' w.heap.size (.slice (some ⟨g, 0, none⟩) n c) (subI ls)) ∧ Below w.heap.size w w' := by
  have HH := hide h
  have HF := hide hf
  have HO := hide (OwnG.made (tE := 3) (K := 1) (cs := ci) w w.heap.size (Nat.le_refl _))
  clear h hf
  go_enter Tryz.func67, Tryz.ntmps67
  go_wp2
  go_loopw [3, 11] (fun v i wr => ∃ (k g n c : Nat) (ts : List Int), k ≤ ls.length ∧ i = .int .i64 k ∧ v = .slice (some ⟨g, 0, none⟩) n c ∧ Hid (OwnG 3 1 ci wr w.heap.size (.slice (some ⟨g, 0, none⟩) n c) ts) ∧ Hid (ts = subI (ls.take k)) ∧ Below w.heap.size w wr) (fun _ i _ => ls.length - (intOf i).toNat)
  case atStart => exact ⟨0, _, _, _, [], Nat.zero_le _, rfl, rfl, HO, (by show _ = _; simp [subI, subC]), (Below.refl _ _).alloc (Nat.le_refl _) _⟩
  case round =>
    obtain ⟨k, g, n, c, ts, hk, rfl, rfl, HOW, HTS, hbe⟩ := hrel
    by_cases hlt : k < ls.length
    · obtain ⟨b, o, rfl, hb, hc⟩ := HH.out (by omega)
      obtain ⟨pa, pc, hc0, hin⟩ := hc k hlt
      have HS := hide (subI_snoc ls k hlt)
      have hfk : ls[k].length ≤ 1048576 := Nat.le_trans (flat_here ls k hlt) HF.out
      have hts : ts.length ≤ 1048576 := by
        rw [HTS.out]
        have := subC_len (ls.take k).flatten
        have := subI_le ls k
        have := HF.out
        unfold subI
        omega
      obtain ⟨cs, hcs⟩ : ∃ cs, ls[k] = cs := ⟨_, rfl⟩
      rw [hcs] at HS hfk hin hc0
      have HIN := hide hin.ps
      clear hcs hc hin
      have hbw : b < w.heap.size := by omega
      have e0 := (hbe.cell (p := ⟨b, o + k, none⟩) hbw).trans hc0
      go_wp2
      go_loopw [3, 17] (fun v q wr => ∃ (j g2 n2 c2 : Nat) (us : List Int), j ≤ cs.length ∧ q = .int .i64 j ∧ v = .slice (some ⟨g2, 0, none⟩) n2 c2 ∧ us.length ≤ 1048576 + j ∧ Hid (OwnG 3 1 ci wr w.heap.size (.slice (some ⟨g2, 0, none⟩) n2 c2) us) ∧ Hid (us = ts ++ subC (cs.take j)) ∧ Below w.heap.size w wr) (fun _ q _ => cs.length - (intOf q).toNat)
      case atStart => exact ⟨0, g, n, c, ts, Nat.zero_le _, rfl, rfl, by omega, HOW, (by show _ = _; simp [subC]), hbe⟩
      case round =>
        obtain ⟨j, g2, n2, c2, us, hj, rfl, rfl, hul, HOU, HUS, hbs⟩ := hrel
        by_cases hjl : j < cs.length
        · obtain ⟨b2, o2, rfl, hb2, hd⟩ := HIN.out (by omega)
          obtain ⟨d0, d1, d2⟩ := hd j hjl
          have hb2w : b2 < w.heap.size := by omega
          have HSJ := hide (subC_snoc cs j hjl)
          have e0 := (hbs.cell (p := ⟨b, o + k, none⟩) hbw).trans hc0
          have q0 := (hbs.cell (p := ⟨b2, o2 + j * 3, none⟩) hb2w).trans d0
          have q1 := (hbs.cell (p := ⟨b2, o2 + j * 3 + 1, none⟩) hb2w).trans d1
          have q2 := (hbs.cell (p := ⟨b2, o2 + j * 3 + 2, none⟩) hb2w).trans d2
          obtain ⟨x, hx⟩ : ∃ x, cs[j] = x := ⟨_, rfl⟩
          rw [hx] at HSJ q0 q1 q2
          have hs3 := hbs.size
          clear hx hd d0 d1 d2
          obtain ⟨no, tk, tg⟩ := x
          simp only at q0 q1 q2
          have bX := (Below.refl wr.heap.size wr).alloc (Nat.le_refl _) (Obj.cells #[.bool no, .int .i64 tk, .string tg] 136)
          have HOX := hide (HOU.out.next bX)
          have HCX := hide (hbs.trans (bX.mono hbs.size))
          by_cases hz : tk = 0
          · subst hz
            have HSS := hide (show us = ts ++ subC (cs.take (j + 1)) by rw [HSJ.out, HUS.out]; simp [subB])
            go_wp2
            go_roundw
            case rel => exact ⟨j + 1, g2, n2, c2, us, by omega, by go_num, rfl, by omega, HOX, HSS, HCX.out⟩
            case measure => simp [intOf]; omega
          · have hz1 : (tk == 0) = false := by simpa using hz
            have hz2 : (tk != 0) = true := by simpa using hz
            cases no
            · have HSS := hide (show us ++ [tk] = ts ++ subC (cs.take (j + 1)) by rw [HSJ.out, HUS.out]; simp [subB, hz])
              clear hz
              have bA := (Below.refl _ (wr.alloc (Obj.cells #[.bool false, .int .i64 tk, .string tg] 136))).alloc (Nat.le_refl _) (Obj.cells #[.int .i64 tk] 3)
              have HO3 := hide (HOX.out.next bA)
              have HC3 := hide (HCX.out.trans (bA.mono HCX.out.size))
              have hln : us.length + 1 ≤ 100000000000 := by omega
              have hs4 := HC3.out.size
              clear bA bX
              go_wp2_with (at_builtin; refine wp_append_gen 24 Tryz.underlying24 (.int .i64 0) 8 infoI rfl (by decide) (by decide) rfl _ _ rfl w.heap.size _ us rfl HO3.out ci_len _ tk rfl (fun i v hv => by match i with | 0 => (cases hv; simp) | i + 1 => cases hv) (fun v hv => by simp [ci] at hv; subst hv; rfl) hln hs4 ?_)
              intro g9 n9 c9 w9 hn9 hO9 hb9 hg9 _
              have HO9 := hide hO9
              have HB9 := hide (HC3.out.trans hb9)
              clear hO9 hb9 hg9 hn9 HO3 HC3
              go_wp2
              go_roundw
              case rel => exact ⟨j + 1, g9, n9, c9, _, by omega, by go_num, rfl, by simp; omega, HO9, HSS, HB9.out⟩
              case measure => simp [intOf]; omega
            · have HSS := hide (show us = ts ++ subC (cs.take (j + 1)) by rw [HSJ.out, HUS.out]; simp [subB])
              clear hz
              go_wp2
              go_roundw
              case rel => exact ⟨j + 1, g2, n2, c2, us, by omega, by go_num, rfl, by omega, HOX, HSS, HCX.out⟩
              case measure => simp [intOf]; omega
        · have HT := hide (show us = subI (ls.take (k + 1)) by rw [HS.out, HUS.out, HTS.out, show cs.take j = cs from List.take_of_length_le (by omega)])
          go_wp2
          go_roundw
          case rel => exact ⟨k + 1, g2, n2, c2, us, by omega, by go_num, rfl, HOU, HT, hbs⟩
          case measure => simp [intOf]; omega
    · have HT := hide (show ls.take k = ls from List.take_of_length_le (by omega))
      go_wp2
      go_ret
      exact ⟨⟨_, _, _, rfl, by rw [← HT.out, ← HTS.out]; exact HOW.out⟩, hbe⟩
end Go.Proofs.YtfhcniifennfbaaGreatDoor
namespace Go.Proofs.YtfhcniifennfbaaGreatDoor
open Go.RowKit M
set_option linter.unusedVariables false

theorem specSub_gen (l : List (List Cn)) (u : Value) (W : World) (h : View W W.heap.size u (.l (l.map dCs))) (hsz : szRs (l.map dCs) ≤ 1048576) :
    Calls Tryz.prog 53 #[u] W fun e w' => (∃ r : Value, e = .returned r ∧ View w' w'.heap.size r (.l ((subI l).map dI))) ∧ Below W.heap.size W w' := by
  obtain ⟨a, cap, rfl, h1, h2, h3, h4⟩ := cnss_of_view h
  refine (specSub_any a l cap W.heap.size W h4 (Nat.le_refl _) (cns_small hsz).1 (flat_small hsz)).mono ?_
  rintro e w' ⟨⟨g, n, c, rfl, ho⟩, hb⟩
  exact ⟨⟨_, rfl, view_of_ints ho⟩, hb⟩
theorem sub_gen (l : List (List Cn)) (u : Value) (W : World) (h : View W W.heap.size u (.l (l.map dCs))) (hsz : szRs (l.map dCs) ≤ 1048576) :
    Calls Tryz.prog 67 #[u] W fun e w' => (∃ r : Value, e = .returned r ∧ Own w' r (.l ((subI l).map dI)) (IvG W.heap.size w'.heap.size)) ∧ Below W.heap.size W w' := by
  obtain ⟨a, cap, rfl, h1, h2, h3, h4⟩ := cnss_of_view h
  refine (sub_any a l cap W.heap.size W h4 (Nat.le_refl _) (cns_small hsz).1 (flat_small hsz)).mono ?_
  rintro e w' ⟨⟨g, n, c, rfl, ho⟩, hb⟩
  have hr := ho.row ci_len
  exact ⟨⟨_, rfl, (own_of_ints ho).wide (fun y hy => by subst hy; exact ⟨hr.2.2.2.1, hr.2.2.2.2.1⟩)⟩, hb⟩
theorem sub_sz (l : List (List Cn)) (hsz : szRs (l.map dCs) ≤ 1048576) : cntRs ((subI l).map dI) ≤ 12582912 := by
  rw [cnt_dI]
  have := subC_len l.flatten
  have := flat_small hsz
  unfold subI
  omega
end Go.Proofs.YtfhcniifennfbaaGreatDoor
namespace Go.Proofs.YtfhcniifennfbaaGreatDoor
open Go.RowKit

/-- The numbers that a slice holds, in a block below B. -/
def Ints (w : World) (B : Nat) (a : Option Addr) (l : List Int) : Prop :=
  0 < l.length → ∃ b o, a = some ⟨b, o, none⟩ ∧ b < B ∧ ∀ j (hj : j < l.length), w.cell? ⟨b, o + j, none⟩ = some (.int .i64 l[j])

theorem Ints.below {w w' : World} {B C : Nat} {a : Option Addr} {l : List Int} (h : Ints w B a l) (hb : Below C w w') (hB : B ≤ C) : Ints w' B a l := fun h0 => by
  obtain ⟨b, o, e, hbB, hc⟩ := h h0
  exact ⟨b, o, e, hbB, fun j hj => (hb.cell (p := ⟨b, o + j, none⟩) (Nat.lt_of_lt_of_le hbB hB)).trans (hc j hj)⟩
theorem Ints.mono {w : World} {B C : Nat} {a : Option Addr} {l : List Int} (h : Ints w B a l) (hB : B ≤ C) : Ints w C a l := fun h0 => by
  obtain ⟨b, o, e, hbB, hc⟩ := h h0
  exact ⟨b, o, e, Nat.lt_of_lt_of_le hbB hB, hc⟩
end Go.Proofs.YtfhcniifennfbaaGreatDoor
namespace Go.Proofs.YtfhcniifennfbaaGreatDoor
open Go.RowKit M
set_option linter.unusedVariables false

theorem anyI_none {t : Int} {l : List Int} (h : ∀ j (hj : j < l.length), l[j] ≠ t) : l.any (· == t) = false := by
  rw [Bool.eq_false_iff]
  intro e
  obtain ⟨x, hx, hp⟩ := List.any_eq_true.1 e
  obtain ⟨j, hj, rfl⟩ := List.mem_iff_getElem.1 hx
  exact h j hj (by simpa using hp)
theorem anyI_some {t : Int} {l : List Int} {k : Nat} (hk : k < l.length) (h : l[k] = t) : l.any (· == t) = true :=
  List.any_eq_true.2 ⟨l[k], List.getElem_mem hk, by simpa using h⟩
end Go.Proofs.YtfhcniifennfbaaGreatDoor
namespace Go.Proofs.YtfhcniifennfbaaGreatDoor
open Go.RowKit M
set_option linter.unusedVariables false

set_option maxHeartbeats 1000000 in
theorem specHas_any (a : Option Addr) (l : List Int) (cap B : Nat) (t : Int) (w : World) (h : Ints w B a l) (hl : l.length ≤ 1048576) :
    Calls Tryz.prog 87 #[.slice a l.length cap, .int .i64 t] w fun e w' => e = .returned (.bool (l.any (· == t))) ∧ w' = w := by
  have HH := hide h
  clear h
  go_enter Tryz.func87, Tryz.ntmps87
  go_wp2
  go_loopw [5] (fun i wr => ∃ k : Nat, k ≤ l.length ∧ i = .int .i64 k ∧ Hid (∀ j (hj : j < l.length), j < k → l[j] ≠ t) ∧ wr = w) (fun i _ => l.length - (intOf i).toNat)
  case atStart => exact ⟨0, Nat.zero_le _, rfl, fun j _ hj => absurd hj (Nat.not_lt_zero _), rfl⟩
  case round =>
    obtain ⟨k, hk, rfl, HN, hw⟩ := hrel
    obtain rfl := hw.symm
    by_cases hlt : k < l.length
    · obtain ⟨b, o, rfl, hb, hc⟩ := HH.out (by omega)
      have hck := hc k hlt
      clear hc
      by_cases hz : l[k] = t
      · have HA := hide (anyI_some hlt hz)
        go_wp2
        go_ret
        exact ⟨by rw [HA.out]; rfl, rfl⟩
      · have HZ := hide hz
        go_wp2
        go_roundw
        case rel => exact ⟨k + 1, by omega, by go_num, fun j hj hjk => if e : j = k then by subst e; exact HZ.out else HN.out j hj (by omega), by trivial⟩
        case measure => simp [intOf]; omega
    · have HA := hide (anyI_none (fun j hj => HN.out j hj (by omega)))
      go_wp2
      go_ret
      exact ⟨by rw [HA.out]; rfl, rfl⟩
end Go.Proofs.YtfhcniifennfbaaGreatDoor
namespace Go.Proofs.YtfhcniifennfbaaGreatDoor
open Go.RowKit M
set_option linter.unusedVariables false

set_option maxRecDepth 100000 in
set_option maxHeartbeats 4000000 in
theorem specEval_any (ls : List (List Cn)) (a : Option Addr) (cap : Nat) (tag : ByteArray) (ta : Option Addr) (toks : List Int) (tc D B : Nat) (w : World) (h : Cnss w B a ls) (hB : B ≤ w.heap.size) (hn : ls.length ≤ 1048576) (hn2 : ∀ cs ∈ ls, cs.length ≤ 1048576) (ht : Ints w D ta toks) (hD : D ≤ w.heap.size) (hl : toks.length ≤ 1048576) :
    Calls Tryz.prog 55 #[.slice a ls.length cap, .slice ta toks.length tc, .string tag] w fun e w' => e = .returned (.bool (evalI ls toks tag)) ∧ Below w.heap.size w w' := by
  have HH := hide h
  have HN2 := hide hn2
  have HI := hide (fun w1 (hb : Below w.heap.size w w1) t => specHas_any ta toks tc D t w1 (ht.below hb hD) hl)
  clear h ht hn2
  go_enter Tryz.func55, Tryz.ntmps55
  go_wp2
  go_loopw [7] (fun i wr => ∃ k : Nat, k ≤ ls.length ∧ i = .int .i64 k ∧ Hid (evalI (ls.take k) toks tag = false) ∧ Below w.heap.size w wr) (fun i _ => ls.length - (intOf i).toNat)
  case atStart => exact ⟨0, Nat.zero_le _, rfl, (by show _ = _; simp [evalI]), Below.refl _ _⟩
  case round =>
    obtain ⟨k, hk, rfl, HE, hbe⟩ := hrel
    by_cases hlt : k < ls.length
    · obtain ⟨b, o, rfl, hb, hc⟩ := HH.out (by omega)
      obtain ⟨pa, pc, hc0, hin⟩ := hc k hlt
      have HS := hide (evalI_snoc ls toks tag k hlt)
      have HHE := hide (evalI_here ls toks tag k hlt)
      have hfk : ls[k].length ≤ 1048576 := HN2.out _ (List.getElem_mem hlt)
      obtain ⟨cs, hcs⟩ : ∃ cs, ls[k] = cs := ⟨_, rfl⟩
      rw [hcs] at HS HHE hfk hin hc0
      have HIN := hide hin.ps
      have hbw : b < w.heap.size := by omega
      clear hcs hc hin
      go_wp2
      go_loopw [8, 9] (fun al q wr => ∃ (j : Nat) (z : Bool), j ≤ cs.length ∧ q = .int .i64 j ∧ al = .bool z ∧ Hid (allC toks tag (cs.take j) = z) ∧ Below w.heap.size w wr) (fun _ q _ => cs.length - (intOf q).toNat)
      case atStart => exact ⟨0, true, Nat.zero_le _, rfl, rfl, (by show _ = _; simp [allC]), hbe⟩
      case round =>
        obtain ⟨j, z, hj, rfl, rfl, HAL, hbs⟩ := hrel
        by_cases hjl : j < cs.length
        · obtain ⟨b2, o2, rfl, hb2, hd⟩ := HIN.out (by omega)
          obtain ⟨d0, d1, d2⟩ := hd j hjl
          have hb2w : b2 < w.heap.size := by omega
          have HSJ := hide (allC_snoc toks tag cs j hjl)
          have e0 := (hbs.cell (p := ⟨b, o + k, none⟩) hbw).trans hc0
          have q0 := (hbs.cell (p := ⟨b2, o2 + j * 3, none⟩) hb2w).trans d0
          have q1 := (hbs.cell (p := ⟨b2, o2 + j * 3 + 1, none⟩) hb2w).trans d1
          have q2 := (hbs.cell (p := ⟨b2, o2 + j * 3 + 2, none⟩) hb2w).trans d2
          obtain ⟨x, hx⟩ : ∃ x, cs[j] = x := ⟨_, rfl⟩
          rw [hx] at HSJ q0 q1 q2
          clear hx hd d0 d1 d2
          obtain ⟨no, tk, tg⟩ := x
          simp only at q0 q1 q2
          have HCB := hide (show condB toks tag ⟨no, tk, tg⟩ = ((if tk = 0 then tg.toList == tag.toList else toks.any (· == tk)) != no) from rfl)
          have bX := hbs.alloc hbs.size (Obj.cells #[.bool no, .int .i64 tk, .string tg] 136)
          have HBX := hide bX
          have HX := hide (BoxV.made wr [.bool no, .int .i64 tk, .string tg] 136)
          have HQ := hide (HI.out _ bX tk)
          rw [HAL.out] at HSJ
          clear bX
          by_cases hz : tk = 0
          · rw [if_pos hz] at HCB
            subst hz
            obtain ⟨y, hy⟩ : ∃ y, (tg.toList == tag.toList) = y := ⟨_, rfl⟩
            rw [hy] at HCB
            cases z
            · have HAN := hide (show allC toks tag (cs.take (j + 1)) = false by rw [HSJ.out]; rfl)
              clear HCB HQ HX
              go_wp2
              go_roundw
              case rel => exact ⟨j + 1, false, by omega, by go_num, rfl, HAN, HBX.out⟩
              case measure => simp [intOf]; omega
            · have HAN := hide (show allC toks tag (cs.take (j + 1)) = (y != no) by rw [HSJ.out, HCB.out]; simp)
              clear HCB HQ HX
              go_wp2
              go_roundw
              case rel => exact ⟨j + 1, _, by omega, by go_num, rfl, HAN, HBX.out⟩
              case measure => simp [intOf]; omega
          · rw [if_neg hz] at HCB
            have hz1 : (tk == 0) = false := by simpa using hz
            have hz2 : (tk != 0) = true := by simpa using hz
            obtain ⟨y, hy⟩ : ∃ y, toks.any (· == tk) = y := ⟨_, rfl⟩
            rw [hy] at HCB HQ
            clear hz hy
            go_wp2_with fail
            refine HQ.out.mono ?_
            rintro e w1 ⟨rfl, hw⟩
            subst hw
            have r0 := (HX.out.2 0 _ rfl).1
            cases z
            · have HAN := hide (show allC toks tag (cs.take (j + 1)) = false by rw [HSJ.out]; rfl)
              clear HCB HX
              go_wp2
              go_roundw
              case rel => exact ⟨j + 1, false, by omega, by go_num, rfl, HAN, HBX.out⟩
              case measure => simp [intOf]; omega
            · have HAN := hide (show allC toks tag (cs.take (j + 1)) = (y != no) by rw [HSJ.out, HCB.out]; simp)
              clear HCB HX
              go_wp2
              go_roundw
              case rel => exact ⟨j + 1, _, by omega, by go_num, rfl, HAN, HBX.out⟩
              case measure => simp [intOf]; omega
        · have e0 := (hbs.cell (p := ⟨b, o + k, none⟩) hbw).trans hc0
          have HT := hide (show allC toks tag cs = z by rw [← HAL.out, show cs.take j = cs from List.take_of_length_le (by omega)])
          cases z
          · have HAN := hide (show evalI (ls.take (k + 1)) toks tag = false by rw [HS.out, HE.out, HT.out]; rfl)
            go_wp2
            go_roundw
            case rel => exact ⟨k + 1, by omega, by go_num, HAN, hbs⟩
            case measure => simp [intOf]; omega
          · have HAN := hide (HHE.out HT.out)
            go_wp2
            go_ret
            exact ⟨by rw [HAN.out]; rfl, hbs⟩
    · have HT := hide (show evalI ls toks tag = false by rw [← HE.out, show ls.take k = ls from List.take_of_length_le (by omega)])
      go_wp2
      go_ret
      exact ⟨by rw [HT.out]; rfl, hbe⟩
end Go.Proofs.YtfhcniifennfbaaGreatDoor
namespace Go.Proofs.YtfhcniifennfbaaGreatDoor
open Go.RowKit M
set_option linter.unusedVariables false

set_option maxHeartbeats 1000000 in
theorem indexI_any (a : Option Addr) (l : List Int) (cap B : Nat) (t : Int) (w : World) (h : Ints w B a l) (hl : l.length ≤ 1048576) :
    Calls Tryz.prog 230 #[.slice a l.length cap, .int .i64 t] w fun e w' => (∃ z : Int, e = .returned (.int .i64 z) ∧ decide (0 ≤ z) = l.any (· == t)) ∧ w' = w := by
  have HH := hide h
  clear h
  go_enter Tryz.func230, Tryz.ntmps230
  go_wp2
  go_loopw [8] (fun i wr => ∃ k : Nat, k ≤ l.length ∧ i = .int .i64 k ∧ Hid (∀ j (hj : j < l.length), j < k → l[j] ≠ t) ∧ wr = w) (fun i _ => l.length - (intOf i).toNat)
  case atStart => exact ⟨0, Nat.zero_le _, rfl, fun j _ hj => absurd hj (Nat.not_lt_zero _), rfl⟩
  case round =>
    obtain ⟨k, hk, rfl, HN, hw⟩ := hrel
    obtain rfl := hw.symm
    by_cases hlt : k < l.length
    · obtain ⟨b, o, rfl, hb, hc⟩ := HH.out (by omega)
      have hck := hc k hlt
      clear hc
      by_cases hz : l[k] = t
      · have HA := hide (anyI_some hlt hz)
        go_wp2
        go_ret
        exact ⟨⟨_, rfl, by rw [HA.out]; simp⟩, rfl⟩
      · have HZ := hide hz
        have hz2 : ¬ t = l[k] := fun e => hz e.symm
        go_wp2
        go_roundw
        case rel => exact ⟨k + 1, by omega, by go_num, fun j hj hjk => if e : j = k then by subst e; exact HZ.out else HN.out j hj (by omega), by trivial⟩
        case measure => simp [intOf]; omega
    · have HA := hide (anyI_none (fun j hj => HN.out j hj (by omega)))
      go_wp2
      go_ret
      exact ⟨⟨_, rfl, by rw [HA.out]; rfl⟩, rfl⟩

set_option maxHeartbeats 1000000 in
theorem containsI_any (a : Option Addr) (l : List Int) (cap B : Nat) (t : Int) (w : World) (h : Ints w B a l) (hl : l.length ≤ 1048576) :
    Calls Tryz.prog 201 #[.slice a l.length cap, .int .i64 t] w fun e w' => e = .returned (.bool (l.any (· == t))) ∧ w' = w := by
  have HQ := hide (indexI_any a l cap B t w h hl)
  clear h
  go_enter Tryz.func201, Tryz.ntmps201
  go_wp2_with fail
  refine HQ.out.mono ?_
  rintro e w1 ⟨⟨z, rfl, hz⟩, hw⟩
  obtain rfl := hw.symm
  have HZ := hide hz
  clear hz hw
  go_wp2
  go_ret
  exact ⟨by rw [← HZ.out]; rfl, rfl⟩
end Go.Proofs.YtfhcniifennfbaaGreatDoor
namespace Go.Proofs.YtfhcniifennfbaaGreatDoor
open Go.RowKit M
set_option linter.unusedVariables false

theorem any_noneG {α : Type} {P : α → Bool} {l : List α} (h : ∀ j (hj : j < l.length), P l[j] = false) : l.any P = false := by
  rw [Bool.eq_false_iff]
  intro e
  obtain ⟨x, hx, hp⟩ := List.any_eq_true.1 e
  obtain ⟨j, hj, rfl⟩ := List.mem_iff_getElem.1 hx
  rw [h j hj] at hp
  cases hp
theorem enterE {P : Program} {f : FuncId} {fn : Func} {c : Code} (hf : P.funcs[f]? = some fn) (hname : (fn.name == "runtime.NumGoroutine") = false) (hb : fn.body = some c) (args : Array Value) (w : World) : (callFunc f args).run P w = .ok (.enter f args) w := by
  have h1 : fn.name ≠ "runtime.NumGoroutine" := by simpa using hname
  simp [callFunc, hf, h1, hb]
theorem makeE : ∀ (fn : Fn) (first cap : Array Value) (w : World), (Instr.makeFunc fn first cap).run Tryz.prog w = .ok (.func fn first cap) w := fun _ _ _ _ => rfl

set_option maxRecDepth 100000 in
set_option maxHeartbeats 4000000 in
theorem indexC_any (fn : Nat) (hE : ∀ args w, (callFunc fn args).run Tryz.prog w = .ok (.enter fn args) w) (cp : Array Value) (P : Cn → Bool) (a : Option Addr) (l : List Cn) (cap B : Nat) (w : World) (h : Cns w B a l) (hB : B ≤ w.heap.size) (hl : l.length ≤ 1048577)
    (hP : ∀ k (hk : k < l.length) W, Below w.heap.size w W → Calls Tryz.prog fn (#[.agg #[.bool l[k].no, .int .i64 l[k].tk, .string l[k].tg]] ++ cp) W fun e w' => e = .returned (.bool (P l[k])) ∧ Below W.heap.size W w') :
    Calls Tryz.prog 225 #[.slice a l.length cap, .func (.func fn) #[] cp] w fun e w' => (∃ z : Int, e = .returned (.int .i64 z) ∧ decide (0 ≤ z) = l.any P) ∧ Below w.heap.size w w' := by
  have HH := hide h
  have HP := hide hP
  have HE := hide hE
  clear h hP hE
  go_enter Tryz.func225, Tryz.ntmps225
  go_wp2
  go_loopw [8] (fun i wr => ∃ k : Nat, k ≤ l.length ∧ i = .int .i64 k ∧ Hid (∀ j (hj : j < l.length), j < k → P l[j] = false) ∧ Below w.heap.size w wr) (fun i _ => l.length - (intOf i).toNat)
  case atStart => exact ⟨0, Nat.zero_le _, rfl, fun j _ hj => absurd hj (Nat.not_lt_zero _), Below.refl _ _⟩
  case round =>
    obtain ⟨k, hk, rfl, HN, hbe⟩ := hrel
    by_cases hlt : k < l.length
    · obtain ⟨b, o, rfl, hb, hc⟩ := (HH.out.below hbe hB) (by omega)
      obtain ⟨d0, d1, d2⟩ := hc k hlt
      have HC := hide (HP.out k hlt wr hbe)
      obtain ⟨z, hz⟩ : ∃ z, P l[k] = z := ⟨_, rfl⟩
      rw [hz] at HC
      have HZ := hide hz
      clear hz hc
      go_wp2_with fail
      rw [HE.out, Oper.upon_enter]
      refine HC.out.mono ?_
      rintro e w1 ⟨rfl, b1⟩
      have c1 := hbe.trans (b1.mono hbe.size)
      clear b1 HC d0 d1 d2
      cases z
      · go_wp2
        go_roundw
        case rel => exact ⟨k + 1, by omega, by go_num, fun j hj hjk => if e : j = k then by subst e; exact HZ.out else HN.out j hj (by omega), c1⟩
        case measure => simp [intOf]; omega
      · have HA := hide (show l.any P = true from List.any_eq_true.2 ⟨l[k], List.getElem_mem hlt, HZ.out⟩)
        go_wp2
        go_ret
        exact ⟨⟨_, rfl, by rw [HA.out]; simp⟩, c1⟩
    · have HA := hide (show l.any P = false from any_noneG (fun j hj => HN.out j hj (by omega)))
      go_wp2
      go_ret
      exact ⟨⟨_, rfl, by rw [HA.out]; rfl⟩, hbe⟩

set_option maxRecDepth 100000 in
set_option maxHeartbeats 1000000 in
theorem containsC_any (fn : Nat) (hE : ∀ args w, (callFunc fn args).run Tryz.prog w = .ok (.enter fn args) w) (cp : Array Value) (P : Cn → Bool) (a : Option Addr) (l : List Cn) (cap B : Nat) (w : World) (h : Cns w B a l) (hB : B ≤ w.heap.size) (hl : l.length ≤ 1048577)
    (hP : ∀ k (hk : k < l.length) W, Below w.heap.size w W → Calls Tryz.prog fn (#[.agg #[.bool l[k].no, .int .i64 l[k].tk, .string l[k].tg]] ++ cp) W fun e w' => e = .returned (.bool (P l[k])) ∧ Below W.heap.size W w') :
    Calls Tryz.prog 191 #[.slice a l.length cap, .func (.func fn) #[] cp] w fun e w' => e = .returned (.bool (l.any P)) ∧ Below w.heap.size w w' := by
  have HQ := hide (indexC_any fn hE cp P a l cap B w h hB hl hP)
  clear h hP hE
  go_enter Tryz.func191, Tryz.ntmps191
  go_wp2_with fail
  refine HQ.out.mono ?_
  rintro e w1 ⟨⟨z, rfl, hz⟩, b1⟩
  have HZ := hide hz
  have HB := hide b1
  clear hz b1
  go_wp2
  go_ret
  exact ⟨by rw [← HZ.out]; rfl, HB.out⟩

set_option maxRecDepth 100000 in
set_option maxHeartbeats 4000000 in
theorem indexCC_any (fn : Nat) (hE : ∀ args w, (callFunc fn args).run Tryz.prog w = .ok (.enter fn args) w) (cp : Array Value) (P : (List Cn) → Bool) (a : Option Addr) (l : List (List Cn)) (cap B : Nat) (w : World) (h : Cnss w B a l) (hB : B ≤ w.heap.size) (hl : l.length ≤ 1048577)
    (hP : ∀ k (hk : k < l.length) pa pc W, Below w.heap.size w W → CsIn W B pa l[k] pc → Calls Tryz.prog fn (#[.slice pa l[k].length pc] ++ cp) W fun e w' => e = .returned (.bool (P l[k])) ∧ Below W.heap.size W w') :
    Calls Tryz.prog 192 #[.slice a l.length cap, .func (.func fn) #[] cp] w fun e w' => (∃ z : Int, e = .returned (.int .i64 z) ∧ decide (0 ≤ z) = l.any P) ∧ Below w.heap.size w w' := by
  have HH := hide h
  have HP := hide hP
  have HE := hide hE
  clear h hP hE
  go_enter Tryz.func192, Tryz.ntmps192
  go_wp2
  go_loopw [8] (fun i wr => ∃ k : Nat, k ≤ l.length ∧ i = .int .i64 k ∧ Hid (∀ j (hj : j < l.length), j < k → P l[j] = false) ∧ Below w.heap.size w wr) (fun i _ => l.length - (intOf i).toNat)
  case atStart => exact ⟨0, Nat.zero_le _, rfl, fun j _ hj => absurd hj (Nat.not_lt_zero _), Below.refl _ _⟩
  case round =>
    obtain ⟨k, hk, rfl, HN, hbe⟩ := hrel
    by_cases hlt : k < l.length
    · obtain ⟨b, o, rfl, hb, hc⟩ := (HH.out.below hbe hB) (by omega)
      obtain ⟨pa, pc, d0, hin⟩ := hc k hlt
      have HC := hide (HP.out k hlt pa pc wr hbe hin)
      obtain ⟨z, hz⟩ : ∃ z, P l[k] = z := ⟨_, rfl⟩
      rw [hz] at HC
      have HZ := hide hz
      clear hz hc hin
      go_wp2_with fail
      rw [HE.out, Oper.upon_enter]
      refine HC.out.mono ?_
      rintro e w1 ⟨rfl, b1⟩
      have c1 := hbe.trans (b1.mono hbe.size)
      clear b1 HC d0
      cases z
      · go_wp2
        go_roundw
        case rel => exact ⟨k + 1, by omega, by go_num, fun j hj hjk => if e : j = k then by subst e; exact HZ.out else HN.out j hj (by omega), c1⟩
        case measure => simp [intOf]; omega
      · have HA := hide (show l.any P = true from List.any_eq_true.2 ⟨l[k], List.getElem_mem hlt, HZ.out⟩)
        go_wp2
        go_ret
        exact ⟨⟨_, rfl, by rw [HA.out]; simp⟩, c1⟩
    · have HA := hide (show l.any P = false from any_noneG (fun j hj => HN.out j hj (by omega)))
      go_wp2
      go_ret
      exact ⟨⟨_, rfl, by rw [HA.out]; rfl⟩, hbe⟩

set_option maxRecDepth 100000 in
set_option maxHeartbeats 1000000 in
theorem containsCC_any (fn : Nat) (hE : ∀ args w, (callFunc fn args).run Tryz.prog w = .ok (.enter fn args) w) (cp : Array Value) (P : (List Cn) → Bool) (a : Option Addr) (l : List (List Cn)) (cap B : Nat) (w : World) (h : Cnss w B a l) (hB : B ≤ w.heap.size) (hl : l.length ≤ 1048577)
    (hP : ∀ k (hk : k < l.length) pa pc W, Below w.heap.size w W → CsIn W B pa l[k] pc → Calls Tryz.prog fn (#[.slice pa l[k].length pc] ++ cp) W fun e w' => e = .returned (.bool (P l[k])) ∧ Below W.heap.size W w') :
    Calls Tryz.prog 164 #[.slice a l.length cap, .func (.func fn) #[] cp] w fun e w' => e = .returned (.bool (l.any P)) ∧ Below w.heap.size w w' := by
  have HQ := hide (indexCC_any fn hE cp P a l cap B w h hB hl hP)
  clear h hP hE
  go_enter Tryz.func164, Tryz.ntmps164
  go_wp2_with fail
  refine HQ.out.mono ?_
  rintro e w1 ⟨⟨z, rfl, hz⟩, b1⟩
  have HZ := hide hz
  have HB := hide b1
  clear hz b1
  go_wp2
  go_ret
  exact ⟨by rw [← HZ.out]; rfl, HB.out⟩

/-- A closure that answers b, asked of these tokens and this mark, in whatever world is behind. -/
def Must (W : World) (f : Value) (ta : Option Addr) (toks : List Int) (tc : Nat) (tag : ByteArray) (b : Bool) : Prop :=
  ∃ fn cp, f = .func (.func fn) #[] cp ∧ (∀ args w, (callFunc fn args).run Tryz.prog w = .ok (.enter fn args) w) ∧ ∀ W', Below W.heap.size W W' → Calls Tryz.prog fn (#[.slice ta toks.length tc, .string tag] ++ cp) W' fun e w' => e = .returned (.bool b) ∧ Below W'.heap.size W' w'
theorem Must.next {W W' : World} {f : Value} {ta : Option Addr} {toks : List Int} {tc : Nat} {tag : ByteArray} {b : Bool} (h : Must W f ta toks tc tag b) (hb : Below W.heap.size W W') : Must W' f ta toks tc tag b := by
  obtain ⟨fn, cp, e, h1, h2⟩ := h
  exact ⟨fn, cp, e, h1, fun V hV => h2 V (hb.trans (hV.mono hb.size))⟩

set_option maxRecDepth 100000 in
set_option maxHeartbeats 1000000 in
theorem tagIs1_any (N tc : Nat) (s tag : ByteArray) (ta : Option Addr) (toks : List Int) (w : World) (h : w.cell? ⟨N, 0, none⟩ = some (.string s)) :
    Calls Tryz.prog 246 #[.slice ta toks.length tc, .string tag, .pointer (some ⟨N, 0, none⟩)] w fun e w' => e = .returned (.bool (tag.toList == s.toList)) ∧ w' = w := by
  go_enter Tryz.func246, Tryz.ntmps246
  go_wp2
  go_ret
  exact ⟨rfl, rfl⟩
set_option maxRecDepth 100000 in
set_option maxHeartbeats 1000000 in
theorem tagIs_any (s tag : ByteArray) (ta : Option Addr) (toks : List Int) (tc : Nat) (w : World) :
    Calls Tryz.prog 222 #[.string s] w fun e w' => (∃ f, e = .returned f ∧ Must w' f ta toks tc tag (s.toList == tag.toList)) ∧ Below w.heap.size w w' := by
  have hmf := makeE
  have HM := hide (show Must (w.alloc (Obj.cells #[.string s] 9)) (.func (.func 246) #[] #[.pointer (some ⟨w.heap.size, 0, none⟩)]) ta toks tc tag (s.toList == tag.toList) from
    ⟨_, _, rfl, fun args w => enterE Tryz.func246 (by kernel_rfl) rfl args w, fun W' hb => (tagIs1_any w.heap.size tc s tag ta toks W' ((hb.cell (p := ⟨w.heap.size, 0, none⟩) (by simp)).trans (by simp))).mono (by
      rintro e w' ⟨rfl, rfl⟩
      exact ⟨by rw [Bool.beq_comm], Below.refl _ _⟩)⟩)
  go_enter Tryz.func222, Tryz.ntmps222
  go_wp2
  go_ret
  exact ⟨⟨_, rfl, HM.out⟩, (Below.refl _ _).alloc (Nat.le_refl _) _⟩
set_option maxRecDepth 100000 in
set_option maxHeartbeats 1000000 in
theorem token1_any (N tc D : Nat) (n : Int) (tag : ByteArray) (ta : Option Addr) (toks : List Int) (w : World) (h : w.cell? ⟨N, 0, none⟩ = some (.int .i64 n)) (ht : Ints w D ta toks) (hl : toks.length ≤ 1048576) :
    Calls Tryz.prog 247 #[.slice ta toks.length tc, .string tag, .pointer (some ⟨N, 0, none⟩)] w fun e w' => e = .returned (.bool (toks.any (· == n))) ∧ w' = w := by
  have HQ := hide (containsI_any ta toks tc D n w ht hl)
  clear ht
  go_enter Tryz.func247, Tryz.ntmps247
  go_wp2_with fail
  refine HQ.out.mono ?_
  rintro e w1 ⟨rfl, hw⟩
  obtain rfl := hw.symm
  go_wp2
  go_ret
  exact ⟨rfl, rfl⟩
set_option maxRecDepth 100000 in
set_option maxHeartbeats 1000000 in
theorem token_any (n : Int) (tag : ByteArray) (ta : Option Addr) (toks : List Int) (tc D : Nat) (w : World) (ht : Ints w D ta toks) (hD : D ≤ w.heap.size) (hl : toks.length ≤ 1048576) :
    Calls Tryz.prog 223 #[.int .i64 n] w fun e w' => (∃ f, e = .returned f ∧ Must w' f ta toks tc tag (toks.any (· == n))) ∧ Below w.heap.size w w' := by
  have hmf := makeE
  have hb0 := (Below.refl w.heap.size w).alloc (Nat.le_refl _) (Obj.cells #[.int .i64 n] 3)
  have HM := hide (show Must (w.alloc (Obj.cells #[.int .i64 n] 3)) (.func (.func 247) #[] #[.pointer (some ⟨w.heap.size, 0, none⟩)]) ta toks tc tag (toks.any (· == n)) from
    ⟨_, _, rfl, fun args w => enterE Tryz.func247 (by kernel_rfl) rfl args w, fun W' hb => (token1_any w.heap.size tc D n tag ta toks W' ((hb.cell (p := ⟨w.heap.size, 0, none⟩) (by simp)).trans (by simp)) ((ht.below hb0 hD).below hb (Nat.le_trans hD hb0.size)) hl).mono (by
      rintro e w' ⟨rfl, rfl⟩
      exact ⟨rfl, Below.refl _ _⟩)⟩)
  clear ht hb0
  go_enter Tryz.func223, Tryz.ntmps223
  go_wp2
  go_ret
  exact ⟨⟨_, rfl, HM.out⟩, (Below.refl _ _).alloc (Nat.le_refl _) _⟩
set_option maxRecDepth 100000 in
set_option maxHeartbeats 1000000 in
theorem notSo1_any (N tc : Nat) (f : Value) (tag : ByteArray) (ta : Option Addr) (toks : List Int) (b : Bool) (w : World) (h : w.cell? ⟨N, 0, none⟩ = some f) (hm : Must w f ta toks tc tag b) :
    Calls Tryz.prog 248 #[.slice ta toks.length tc, .string tag, .pointer (some ⟨N, 0, none⟩)] w fun e w' => e = .returned (.bool (!b)) ∧ Below w.heap.size w w' := by
  obtain ⟨fn, cp, rfl, hE, hC⟩ := hm
  have HE := hide hE
  have HC := hide (hC w (Below.refl _ _))
  clear hE hC
  go_enter Tryz.func248, Tryz.ntmps248
  go_wp2_with fail
  rw [HE.out, Oper.upon_enter]
  refine HC.out.mono ?_
  rintro e w1 ⟨rfl, b1⟩
  go_wp2
  go_ret
  exact ⟨rfl, b1⟩
set_option maxRecDepth 100000 in
set_option maxHeartbeats 1000000 in
theorem notSo_any (f : Value) (tag : ByteArray) (ta : Option Addr) (toks : List Int) (tc : Nat) (b : Bool) (w : World) (hm : Must w f ta toks tc tag b) :
    Calls Tryz.prog 224 #[f] w fun e w' => (∃ f, e = .returned f ∧ Must w' f ta toks tc tag (!b)) ∧ Below w.heap.size w w' := by
  have hmf := makeE
  obtain ⟨fn, cp, rfl, hE, hC⟩ := hm
  have hb0 := (Below.refl w.heap.size w).alloc (Nat.le_refl _) (Obj.cells #[.func (.func fn) #[] cp] 192)
  have HM := hide (show Must (w.alloc (Obj.cells #[.func (.func fn) #[] cp] 192)) (.func (.func 248) #[] #[.pointer (some ⟨w.heap.size, 0, none⟩)]) ta toks tc tag (!b) from
    ⟨_, _, rfl, fun args w => enterE Tryz.func248 (by kernel_rfl) rfl args w, fun W' hb => notSo1_any w.heap.size tc (.func (.func fn) #[] cp) tag ta toks b W' ((hb.cell (p := ⟨w.heap.size, 0, none⟩) (by simp)).trans (by simp)) (Must.next (Must.next ⟨fn, cp, rfl, hE, hC⟩ hb0) hb)⟩)
  clear hE hC hb0
  go_enter Tryz.func224, Tryz.ntmps224
  go_wp2
  go_ret
  exact ⟨⟨_, rfl, HM.out⟩, (Below.refl _ _).alloc (Nat.le_refl _) _⟩

set_option maxRecDepth 100000 in
set_option maxHeartbeats 2000000 in
theorem mustOf_any (c : Cn) (tag : ByteArray) (ta : Option Addr) (toks : List Int) (tc D : Nat) (w : World) (ht : Ints w D ta toks) (hD : D ≤ w.heap.size) (hl : toks.length ≤ 1048576) :
    Calls Tryz.prog 190 #[.agg #[.bool c.no, .int .i64 c.tk, .string c.tg]] w fun e w' => (∃ f, e = .returned f ∧ Must w' f ta toks tc tag (condB toks tag c)) ∧ Below w.heap.size w w' := by
  obtain ⟨no, tk, tg⟩ := c
  have hb0 := (Below.refl w.heap.size w).alloc (Nat.le_refl _) (Obj.cells #[.bool no, .int .i64 tk, .string tg] 136)
  have HT := hide (tagIs_any tg tag ta toks tc (w.alloc (Obj.cells #[.bool no, .int .i64 tk, .string tg] 136)))
  have HX := hide (BoxV.made w [.bool no, .int .i64 tk, .string tg] 136)
  have HB := hide hb0
  have HIN := hide (ht.below hb0 hD)
  have HCB := hide (show condB toks tag ⟨no, tk, tg⟩ = ((if tk = 0 then tg.toList == tag.toList else toks.any (· == tk)) != no) from rfl)
  have hD0 := Nat.le_trans hD hb0.size
  clear ht hb0
  show Calls Tryz.prog 190 #[.agg #[.bool no, .int .i64 tk, .string tg]] w _
  go_enter Tryz.func190, Tryz.ntmps190
  go_wp2_with fail
  refine HT.out.mono ?_
  rintro e w1 ⟨⟨f1, rfl, hm1⟩, b1⟩
  have HM1 := hide hm1
  have HC1 := hide (HB.out.trans (b1.mono HB.out.size))
  have HI1 := hide (HIN.out.below b1 hD0)
  have HX1 := hide (HX.out.next b1)
  have hD1 := Nat.le_trans hD HC1.out.size
  clear hm1 b1 HT HX HB HIN
  have q0 := (HX1.out.2 0 _ rfl).1
  have q1 := (HX1.out.2 1 _ rfl).1
  by_cases hz : tk = 0
  · rw [if_pos hz] at HCB
    subst hz
    cases no
    · have HR := hide (show Must w1 f1 ta toks tc tag (condB toks tag ⟨false, 0, tg⟩) by rw [HCB.out]; simpa using HM1.out)
      go_wp2
      go_ret
      exact ⟨⟨_, rfl, HR.out⟩, HC1.out⟩
    · have HN := hide (notSo_any f1 tag ta toks tc _ w1 HM1.out)
      go_wp2_with fail
      refine HN.out.mono ?_
      rintro e w2 ⟨⟨f2, rfl, hm2⟩, b2⟩
      have HM2 := hide hm2
      have HC2 := hide (HC1.out.trans (b2.mono HC1.out.size))
      clear hm2 b2 q0 q1
      go_wp2
      go_ret
      exact ⟨⟨_, rfl, by rw [HCB.out]; simpa using HM2.out⟩, HC2.out⟩
  · rw [if_neg hz] at HCB
    have hz1 : (tk == 0) = false := by simpa using hz
    have hz2 : (tk != 0) = true := by simpa using hz
    have HK := hide (token_any tk tag ta toks tc D w1 HI1.out hD1 hl)
    clear hz HM1
    go_wp2_with fail
    refine HK.out.mono ?_
    rintro e w2 ⟨⟨f2, rfl, hm2⟩, b2⟩
    have HM2 := hide hm2
    have HC2 := hide (HC1.out.trans (b2.mono HC1.out.size))
    have HX2 := hide (HX1.out.next b2)
    clear hm2 b2 q0 q1 HK HX1 HC1 HI1
    have q0 := (HX2.out.2 0 _ rfl).1
    cases no
    · go_wp2
      go_ret
      exact ⟨⟨_, rfl, by rw [HCB.out]; simpa using HM2.out⟩, HC2.out⟩
    · have HN := hide (notSo_any f2 tag ta toks tc _ w2 HM2.out)
      go_wp2_with fail
      refine HN.out.mono ?_
      rintro e w3 ⟨⟨f3, rfl, hm3⟩, b3⟩
      have HM3 := hide hm3
      have HC3 := hide (HC2.out.trans (b3.mono HC2.out.size))
      clear hm3 b3 q0
      go_wp2
      go_ret
      exact ⟨⟨_, rfl, by rw [HCB.out]; simpa using HM3.out⟩, HC3.out⟩
end Go.Proofs.YtfhcniifennfbaaGreatDoor
namespace Go.Proofs.YtfhcniifennfbaaGreatDoor
open Go.RowKit M
set_option linter.unusedVariables false

/-- Two boxes: the tokens, the mark. -/
def TwoB (W : World) (N M : Nat) (ta : Option Addr) (tl tc : Nat) (tag : ByteArray) : Prop := W.cell? ⟨N, 0, none⟩ = some (.slice ta tl tc) ∧ W.cell? ⟨M, 0, none⟩ = some (.string tag)
theorem TwoB.next {W W' : World} {N M tl tc : Nat} {ta : Option Addr} {tag : ByteArray} (h : TwoB W N M ta tl tc tag) (hb : Below W.heap.size W W') : TwoB W' N M ta tl tc tag :=
  ⟨(hb.cell (p := ⟨N, 0, none⟩) (World.block_lt_of_cell? W _ h.1)).trans h.1, (hb.cell (p := ⟨M, 0, none⟩) (World.block_lt_of_cell? W _ h.2)).trans h.2⟩
theorem TwoB.drew {W : World} {N M tl tc : Nat} {ta : Option Addr} {tag : ByteArray} (h : TwoB W N M ta tl tc tag) : TwoB W.drew N M ta tl tc tag := h

set_option maxRecDepth 100000 in
set_option maxHeartbeats 4000000 in
theorem fails_any (c : Cn) (N M : Nat) (tag : ByteArray) (ta : Option Addr) (toks : List Int) (tc D : Nat) (w : World) (h : TwoB w N M ta toks.length tc tag) (ht : Ints w D ta toks) (hD : D ≤ w.heap.size) (hl : toks.length ≤ 1048576) :
    Calls Tryz.prog 189 #[.agg #[.bool c.no, .int .i64 c.tk, .string c.tg], .pointer (some ⟨N, 0, none⟩), .pointer (some ⟨M, 0, none⟩)] w fun e w' => e = .returned (.bool (!condB toks tag c)) ∧ Below w.heap.size w w' := by
  have hb0 := (Below.refl w.heap.size w).alloc (Nat.le_refl _) (Obj.cells #[.bool c.no, .int .i64 c.tk, .string c.tg] 136)
  have hbd := below_drewG hb0
  have HX := hide (BoxV.made w [.bool c.no, .int .i64 c.tk, .string c.tg] 136).drew
  have HT := hide (h.next hb0).drew
  have HM := hide (mustOf_any c tag ta toks tc D (w.alloc (Obj.cells #[.bool c.no, .int .i64 c.tk, .string c.tg] 136)).drew (ht.below hbd hD) (Nat.le_trans hD hbd.size) hl)
  have HB := hide hbd
  obtain ⟨b, hb⟩ : ∃ b, condB toks tag c = b := ⟨_, rfl⟩
  rw [hb] at HM ⊢
  clear h ht hb0 hbd hb
  go_enter Tryz.func189, Tryz.ntmps189
  go_wp2
  refine wp_region_held_drew (S := (fun W => TwoB W N M ta toks.length tc tag ∧ BoxV W w.heap.size [.bool c.no, .int .i64 c.tk, .string c.tg])) (by kernel_rfl) ⟨HT.out, HX.out⟩ (fun hHeld => ?_)
  simp only [List.size_toArray, List.length_cons, List.length_nil, Nat.reduceAdd, Array.replicate_succ, Array.replicate_zero, List.push_toArray, List.nil_append, List.cons_append]
  refine wpAnyH_take (i := 0) (v := ?_) rfl (by kernel_rfl) (by kernel_rfl) (by kernel_rfl) (fun _ _ _ h => h) (Or.inl ⟨by rfl, ?_⟩) (by assumption) ?_
  rotate_left
  · intro w hSw; (try dsimp only at hSw); obtain ⟨⟨t0, t1⟩, ⟨_, q0⟩⟩ := hSw; have c0 := (q0 0 _ rfl).1; have c1 := (q0 1 _ rfl).1; have c2 := (q0 2 _ rfl).1; go_simp; try with_reducible rfl
  simp only [Act.put, List.getElem_toArray, List.getElem_cons_zero, List.setIfInBounds_toArray, List.set_cons_zero]
  refine wpAnyH_take (i := 2) (v := ?_) rfl (by kernel_rfl) (by kernel_rfl) (by kernel_rfl) (fun _ _ _ h => h) (Or.inl ⟨by rfl, ?_⟩) (by assumption) ?_
  rotate_left
  · intro w hSw; (try dsimp only at hSw); obtain ⟨⟨t0, t1⟩, ⟨_, q0⟩⟩ := hSw; have c0 := (q0 0 _ rfl).1; have c1 := (q0 1 _ rfl).1; have c2 := (q0 2 _ rfl).1; go_simp; try with_reducible rfl
  simp only [Act.put, List.getElem_toArray, List.getElem_cons_succ, List.getElem_cons_zero, List.setIfInBounds_toArray, List.set_cons_succ, List.set_cons_zero]
  refine wpAnyH_take (i := 3) (v := ?_) rfl (by kernel_rfl) (by kernel_rfl) (by kernel_rfl) (fun _ _ _ h => h) (Or.inl ⟨by rfl, ?_⟩) (by assumption) ?_
  rotate_left
  · intro w hSw; (try dsimp only at hSw); obtain ⟨⟨t0, t1⟩, ⟨_, q0⟩⟩ := hSw; have c0 := (q0 0 _ rfl).1; have c1 := (q0 1 _ rfl).1; have c2 := (q0 2 _ rfl).1; go_simp; try with_reducible rfl
  simp only [Act.put, List.getElem_toArray, List.getElem_cons_succ, List.getElem_cons_zero, List.setIfInBounds_toArray, List.set_cons_succ, List.set_cons_zero]
  refine wpAnyH_ready (rs := [1]) (by kernel_rfl) (by simp) ?_
  refine AllReadyH.cons rfl (fun K hK => ?_) AllReadyH.nil
  go_simp
  refine HM.out.mono ?_
  rintro e w1 ⟨⟨f, rfl, hm⟩, b1⟩
  obtain ⟨fn, cp, rfl, hE, hC⟩ := hm
  have HE := hide hE
  have HC := hide (hC w1 (Below.refl _ _))
  have HB1 := hide (HB.out.trans (b1.mono HB.out.size))
  have HT1 := hide (HT.out.next b1)
  have HX1 := hide (HX.out.next b1)
  clear hE hC b1
  refine hK.out _ _ ⟨HT1.out, HX1.out⟩ (fun hHeld2 => ?_)
  clear hK K hHeld
  have hHeld := hHeld2
  clear hHeld2
  simp only [List.setIfInBounds_toArray, List.set_cons_succ, List.set_cons_zero]
  refine wpAnyH_ready (rs := [4]) (by kernel_rfl) (by simp) ?_
  refine AllReadyH.cons rfl (fun K hK => ?_) AllReadyH.nil
  go_simp
  rw [HE.out, Oper.upon_enter]
  refine HC.out.mono ?_
  rintro e w2 ⟨rfl, b2⟩
  have HB2 := hide (HB1.out.trans (b2.mono HB1.out.size))
  refine hK.out _ _ ⟨HT1.out.next b2, HX1.out.next b2⟩ (fun hHeld2 => ?_)
  clear hK K hHeld
  have hHeld := hHeld2
  clear hHeld2
  simp only [List.setIfInBounds_toArray, List.set_cons_succ, List.set_cons_zero]
  refine wpAnyH_take (i := 5) (v := ?_) rfl (by kernel_rfl) (by kernel_rfl) (by kernel_rfl) (fun _ _ _ h => h) (Or.inl ⟨by rfl, ?_⟩) (by assumption) ?_
  rotate_left
  · intro w hSw; (try dsimp only at hSw); go_simp; try with_reducible rfl
  simp only [Act.put, List.getElem_toArray, List.getElem_cons_succ, List.getElem_cons_zero, List.setIfInBounds_toArray, List.set_cons_succ, List.set_cons_zero]
  refine wpAnyH_take (i := 6) (v := ?_) rfl (by kernel_rfl) (by kernel_rfl) (by kernel_rfl) (fun _ _ _ h => h) (Or.inl ⟨by rfl, ?_⟩) (by assumption) ?_
  rotate_left
  · intro w hSw; (try dsimp only at hSw); go_simp; try with_reducible rfl
  simp only [Act.put, List.getElem_toArray, List.getElem_cons_succ, List.getElem_cons_zero, List.setIfInBounds_toArray, List.set_cons_succ, List.set_cons_zero]
  refine wpAnyH_done (by kernel_rfl) ?_ _
  clear hHeld b2
  go_wp2
  go_ret
  exact ⟨rfl, HB2.out⟩

set_option maxHeartbeats 2000000 in
theorem mustAll1_any (cs : List Cn) (pa : Option Addr) (pc N : Nat) (tag : ByteArray) (ta : Option Addr) (toks : List Int) (tc D B : Nat) (w : World) (h : w.cell? ⟨N, 0, none⟩ = some (.slice pa cs.length pc)) (hc : Cns w B pa cs) (hB : B ≤ w.heap.size) (hn : cs.length ≤ 1048576) (ht : Ints w D ta toks) (hD : D ≤ w.heap.size) (hl : toks.length ≤ 1048576) :
    Calls Tryz.prog 188 #[.slice ta toks.length tc, .string tag, .pointer (some ⟨N, 0, none⟩)] w fun e w' => e = .returned (.bool (allC toks tag cs)) ∧ Below w.heap.size w w' := by
  have hmf := makeE
  have hb0 := ((Below.refl w.heap.size w).alloc (Nat.le_refl _) (Obj.cells #[.slice ta toks.length tc] 24)).alloc (by simp) (Obj.cells #[.string tag] 9)
  have HT : Hid (TwoB ((w.alloc (Obj.cells #[.slice ta toks.length tc] 24)).alloc (Obj.cells #[.string tag] 9)) w.heap.size (w.heap.size + 1) ta toks.length tc tag) := hide (by unfold TwoB; simp [go_sem])
  have hcell := (hb0.cell (p := ⟨N, 0, none⟩) (World.block_lt_of_cell? w _ h)).trans h
  have HQ := hide (containsC_any 189 (fun args w => enterE Tryz.func189 (by kernel_rfl) rfl args w) #[.pointer (some ⟨w.heap.size, 0, none⟩), .pointer (some ⟨w.heap.size + 1, 0, none⟩)] (fun c => !condB toks tag c) pa cs pc B _ (hc.below hb0 hB) (Nat.le_trans hB hb0.size) (by omega) (fun k hk W hW => fails_any cs[k] w.heap.size (w.heap.size + 1) tag ta toks tc D W (HT.out.next hW) ((ht.below hb0 hD).below hW (Nat.le_trans hD hb0.size)) (Nat.le_trans (Nat.le_trans hD hb0.size) hW.size) hl))
  have HA := hide (show (!cs.any fun c => !condB toks tag c) = allC toks tag cs by unfold allC; rw [List.not_any_eq_all_not]; simp)
  have HB := hide hb0
  clear ht hc h hb0 HT
  go_enter Tryz.func188, Tryz.ntmps188
  go_wp2_with fail
  refine HQ.out.mono ?_
  rintro e w1 ⟨rfl, b1⟩
  have HC := hide (HB.out.trans (b1.mono HB.out.size))
  go_wp2
  go_ret
  exact ⟨by rw [← HA.out]; rfl, HC.out⟩
set_option maxHeartbeats 1000000 in
theorem mustAll_any (cs : List Cn) (pa : Option Addr) (pc : Nat) (tag : ByteArray) (ta : Option Addr) (toks : List Int) (tc D B : Nat) (w : World) (hc : Cns w B pa cs) (hB : B ≤ w.heap.size) (hn : cs.length ≤ 1048576) (ht : Ints w D ta toks) (hD : D ≤ w.heap.size) (hl : toks.length ≤ 1048576) :
    Calls Tryz.prog 163 #[.slice pa cs.length pc] w fun e w' => (∃ f, e = .returned f ∧ Must w' f ta toks tc tag (allC toks tag cs)) ∧ Below w.heap.size w w' := by
  have hmf := makeE
  have hb0 := (Below.refl w.heap.size w).alloc (Nat.le_refl _) (Obj.cells #[.slice pa cs.length pc] 132)
  have HM := hide (show Must (w.alloc (Obj.cells #[.slice pa cs.length pc] 132)) (.func (.func 188) #[] #[.pointer (some ⟨w.heap.size, 0, none⟩)]) ta toks tc tag (allC toks tag cs) from
    ⟨_, _, rfl, fun args w => enterE Tryz.func188 (by kernel_rfl) rfl args w, fun W' hb => mustAll1_any cs pa pc w.heap.size tag ta toks tc D B W' ((hb.cell (p := ⟨w.heap.size, 0, none⟩) (by simp)).trans (by simp)) ((hc.below hb0 hB).below hb (Nat.le_trans hB hb0.size)) (Nat.le_trans (Nat.le_trans hB hb0.size) hb.size) hn ((ht.below hb0 hD).below hb (Nat.le_trans hD hb0.size)) (Nat.le_trans (Nat.le_trans hD hb0.size) hb.size) hl⟩)
  clear hc ht hb0
  go_enter Tryz.func163, Tryz.ntmps163
  go_wp2
  go_ret
  exact ⟨⟨_, rfl, HM.out⟩, (Below.refl _ _).alloc (Nat.le_refl _) _⟩

set_option maxRecDepth 100000 in
set_option maxHeartbeats 4000000 in
theorem holds_any (cs : List Cn) (pa : Option Addr) (pc N M : Nat) (tag : ByteArray) (ta : Option Addr) (toks : List Int) (tc D B : Nat) (w : World) (h : TwoB w N M ta toks.length tc tag) (hc : Cns w B pa cs) (hB : B ≤ w.heap.size) (hn : cs.length ≤ 1048576) (ht : Ints w D ta toks) (hD : D ≤ w.heap.size) (hl : toks.length ≤ 1048576) :
    Calls Tryz.prog 162 #[.slice pa cs.length pc, .pointer (some ⟨N, 0, none⟩), .pointer (some ⟨M, 0, none⟩)] w fun e w' => e = .returned (.bool (allC toks tag cs)) ∧ Below w.heap.size w w' := by
  have hbd : Below w.heap.size w w.drew := below_drewG (Below.refl _ _)
  have HT := hide h.drew
  have HM := hide (mustAll_any cs pa pc tag ta toks tc D B w.drew (hc.below hbd hB) (Nat.le_trans hB hbd.size) hn (ht.below hbd hD) (Nat.le_trans hD hbd.size) hl)
  have HB := hide hbd
  obtain ⟨b, hb⟩ : ∃ b, allC toks tag cs = b := ⟨_, rfl⟩
  rw [hb] at HM ⊢
  clear h hc ht hbd hb
  go_enter Tryz.func162, Tryz.ntmps162
  go_wp2
  refine wp_region_held_drew (S := (fun W => TwoB W N M ta toks.length tc tag)) (by kernel_rfl) HT.out (fun hHeld => ?_)
  simp only [List.size_toArray, List.length_cons, List.length_nil, Nat.reduceAdd, Array.replicate_succ, Array.replicate_zero, List.push_toArray, List.nil_append, List.cons_append]
  refine wpAnyH_take (i := 0) (v := ?_) rfl (by kernel_rfl) (by kernel_rfl) (by kernel_rfl) (fun _ _ _ h => h) (Or.inl ⟨by rfl, ?_⟩) (by assumption) ?_
  rotate_left
  · intro w hSw; (try dsimp only at hSw); go_simp; try with_reducible rfl
  simp only [Act.put, List.getElem_toArray, List.getElem_cons_zero, List.setIfInBounds_toArray, List.set_cons_zero]
  refine wpAnyH_take (i := 2) (v := ?_) rfl (by kernel_rfl) (by kernel_rfl) (by kernel_rfl) (fun _ _ _ h => h) (Or.inl ⟨by rfl, ?_⟩) (by assumption) ?_
  rotate_left
  · intro w hSw; (try dsimp only at hSw); obtain ⟨t0, t1⟩ := hSw; go_simp; try with_reducible rfl
  simp only [Act.put, List.getElem_toArray, List.getElem_cons_succ, List.getElem_cons_zero, List.setIfInBounds_toArray, List.set_cons_succ, List.set_cons_zero]
  refine wpAnyH_take (i := 3) (v := ?_) rfl (by kernel_rfl) (by kernel_rfl) (by kernel_rfl) (fun _ _ _ h => h) (Or.inl ⟨by rfl, ?_⟩) (by assumption) ?_
  rotate_left
  · intro w hSw; (try dsimp only at hSw); obtain ⟨t0, t1⟩ := hSw; go_simp; try with_reducible rfl
  simp only [Act.put, List.getElem_toArray, List.getElem_cons_succ, List.getElem_cons_zero, List.setIfInBounds_toArray, List.set_cons_succ, List.set_cons_zero]
  refine wpAnyH_ready (rs := [1]) (by kernel_rfl) (by simp) ?_
  refine AllReadyH.cons rfl (fun K hK => ?_) AllReadyH.nil
  go_simp
  refine HM.out.mono ?_
  rintro e w1 ⟨⟨f, rfl, hm⟩, b1⟩
  obtain ⟨fn, cp, rfl, hE, hC⟩ := hm
  have HE := hide hE
  have HC := hide (hC w1 (Below.refl _ _))
  have HB1 := hide (HB.out.trans (b1.mono HB.out.size))
  have HT1 := hide (HT.out.next b1)
  clear hE hC b1
  refine hK.out _ _ HT1.out (fun hHeld2 => ?_)
  clear hK K hHeld
  have hHeld := hHeld2
  clear hHeld2
  simp only [List.setIfInBounds_toArray, List.set_cons_succ, List.set_cons_zero]
  refine wpAnyH_ready (rs := [4]) (by kernel_rfl) (by simp) ?_
  refine AllReadyH.cons rfl (fun K hK => ?_) AllReadyH.nil
  go_simp
  rw [HE.out, Oper.upon_enter]
  refine HC.out.mono ?_
  rintro e w2 ⟨rfl, b2⟩
  have HB2 := hide (HB1.out.trans (b2.mono HB1.out.size))
  refine hK.out _ _ (HT1.out.next b2) (fun hHeld2 => ?_)
  clear hK K hHeld
  have hHeld := hHeld2
  clear hHeld2
  simp only [List.setIfInBounds_toArray, List.set_cons_succ, List.set_cons_zero]
  refine wpAnyH_take (i := 5) (v := ?_) rfl (by kernel_rfl) (by kernel_rfl) (by kernel_rfl) (fun _ _ _ h => h) (Or.inl ⟨by rfl, ?_⟩) (by assumption) ?_
  rotate_left
  · intro w hSw; (try dsimp only at hSw); go_simp; try with_reducible rfl
  simp only [Act.put, List.getElem_toArray, List.getElem_cons_succ, List.getElem_cons_zero, List.setIfInBounds_toArray, List.set_cons_succ, List.set_cons_zero]
  refine wpAnyH_done (by kernel_rfl) ?_ _
  clear hHeld b2
  go_wp2
  go_ret
  exact ⟨rfl, HB2.out⟩

set_option maxHeartbeats 2000000 in
theorem evalIf_any (ls : List (List Cn)) (a : Option Addr) (cap : Nat) (tag : ByteArray) (ta : Option Addr) (toks : List Int) (tc D B : Nat) (w : World) (h : Cnss w B a ls) (hB : B ≤ w.heap.size) (hn : ls.length ≤ 1048576) (hn2 : ∀ cs ∈ ls, cs.length ≤ 1048576) (ht : Ints w D ta toks) (hD : D ≤ w.heap.size) (hl : toks.length ≤ 1048576) :
    Calls Tryz.prog 135 #[.slice a ls.length cap, .slice ta toks.length tc, .string tag] w fun e w' => e = .returned (.bool (evalI ls toks tag)) ∧ Below w.heap.size w w' := by
  have hmf := makeE
  have hb0 := ((Below.refl w.heap.size w).alloc (Nat.le_refl _) (Obj.cells #[.slice ta toks.length tc] 24)).alloc (by simp) (Obj.cells #[.string tag] 9)
  have HT : Hid (TwoB ((w.alloc (Obj.cells #[.slice ta toks.length tc] 24)).alloc (Obj.cells #[.string tag] 9)) w.heap.size (w.heap.size + 1) ta toks.length tc tag) := hide (by unfold TwoB; simp [go_sem])
  have HQ := hide (containsCC_any 162 (fun args w => enterE Tryz.func162 (by kernel_rfl) rfl args w) #[.pointer (some ⟨w.heap.size, 0, none⟩), .pointer (some ⟨w.heap.size + 1, 0, none⟩)] (allC toks tag) a ls cap B _ (h.below hb0 hB) (Nat.le_trans hB hb0.size) (by omega) (fun k hk pa pc W hW hin => holds_any ls[k] pa pc w.heap.size (w.heap.size + 1) tag ta toks tc D B W (HT.out.next hW) hin.ps (Nat.le_trans (Nat.le_trans hB hb0.size) hW.size) (hn2 _ (List.getElem_mem hk)) ((ht.below hb0 hD).below hW (Nat.le_trans hD hb0.size)) (Nat.le_trans (Nat.le_trans hD hb0.size) hW.size) hl))
  have HB := hide hb0
  clear ht h hb0 HT
  go_enter Tryz.func135, Tryz.ntmps135
  go_wp2_with fail
  refine HQ.out.mono ?_
  rintro e w1 ⟨rfl, b1⟩
  have HC := hide (HB.out.trans (b1.mono HB.out.size))
  go_wp2
  go_ret
  exact ⟨rfl, HC.out⟩
end Go.Proofs.YtfhcniifennfbaaGreatDoor
namespace Go.Proofs.YtfhcniifennfbaaGreatDoor
open Go.RowKit M
set_option linter.unusedVariables false

theorem ints_of_view {w : World} {B : Nat} {v : Value} {l : List Int} (h : View w B v (.l (l.map dI))) : ∃ a cap, v = .slice a l.length cap ∧ l.length ≤ cap ∧ cap ≤ maxLen ∧ (a = none → cap = 0) ∧ Ints w B a l := by
  obtain ⟨a, cap, h1, h2, h3, h4, h5⟩ := h.rows 1 (fun _ => rfl)
  refine ⟨a, cap, h1, h2, h3, h4, fun h0 => ?_⟩
  obtain ⟨b, o, C, e, hb, hc⟩ := h5 h0
  refine ⟨b, o, e, hb, fun j hj => ?_⟩
  obtain ⟨c, v⟩ := hc j hj 0 (.c (.int .i64 l[j])) rfl
  rw [v.inv] at c
  simpa using c
end Go.Proofs.YtfhcniifennfbaaGreatDoor
