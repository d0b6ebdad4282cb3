/-
  What the specification's l3Read does: what stands ahead of a body is read.
-/
import Derived.Test.YtanebchmeaomgaaGreatDoorSpecHead
import Derived.Test.YtanebchmeaomgaaGreatDoorSpecLeast
namespace Go.Proofs.YtanebchmeaomgaaGreatDoor
open Go.RowKit M
set_option linter.unusedVariables false

theorem row_base {w : World} {B C n sz : Nat} {e : TypeId} {v : Value} {xs : List Value} (h : w.ownsRow B e sz v n xs) (hC : C ≤ B) : w.ownsRow C e sz v n xs := by
  refine ⟨h.1, ?_⟩
  rcases h.2 with h | ⟨g, cap, cur, e, hB, hr⟩
  · exact .inl h
  · exact .inr ⟨g, cap, cur, e, Nat.le_trans hC hB, hr⟩
theorem FrS.line {C N : Nat} {w0 W : World} {m p : ByteArray} {hs : List Hd} {g n cap : Nat} {ls : List ByteArray} (h : FrS C N w0 m p hs (.slice (some ⟨g, 0, none⟩) n cap) ls W) (j : Nat) (hj : j < ls.length) (hn : n = ls.length) : W.cell? ⟨g, j, none⟩ = some (.string ls[j]) := by
  obtain ⟨_, _, _, _, _, h4, _⟩ := h
  subst hn
  exact rowS_cell h4 j hj
theorem FrS.lines {C N : Nat} {w0 w w1 : World} {m p : ByteArray} {hs : List Hd} {lv lv' : Value} {ls ls' : List ByteArray} (h : FrS C N w0 m p hs lv ls w) (hb : Below w.heap.size w w1) (hown : w1.ownsRow w.heap.size 9 1 lv' ls'.length (strCells ls')) : FrS C N w0 m p hs lv' ls' w1 := by
  have hlt := h.bel.2
  obtain ⟨hv, cv, h1, h2, h3, h4, h5, h6, h7, h8, h9⟩ := h
  have hap : ∀ v : Value, (∀ k, v.ownBlock = some k → k < w.heap.size) → ApartV v lv' := by
    intro v hv
    cases e : v.ownBlock with
    | none => exact .inl e
    | some k =>
      refine .inr (fun e2 => ?_)
      have a := hv k e
      have b := (hown.lt k (by rw [← e2, e])).1
      omega
  refine ⟨hv, cv, (hb.block _ hlt).trans h1, ownsH_below h2 hb, owns_below h3 hb, row_base hown hlt, h5, hap _ (fun k e => (World.ownsRow.lt h2 k e).2), hap _ (fun k e => (World.ownsRow.lt h3 k e).2), h8.trans (hb.mono (Nat.le_of_lt (Nat.lt_of_le_of_lt h9 hlt))), h9⟩
theorem rowI_ints {w : World} {B g n c : Nat} {l : List Int} (h : w.ownsRow B 3 1 (.slice (some ⟨g, 0, none⟩) n c) n (intCells l)) : Ints w w.heap.size (some ⟨g, 0, none⟩) l := fun h0 =>
  ⟨g, 0, rfl, (h.lt g rfl).2, fun j hj => by
    have := h.cells (g := g) rfl j (.int .i64 l[j]) (by simp [intCells, List.getElem?_eq_getElem hj])
    have e : (⟨g, 0, none⟩ : Addr).add j = ⟨g, 0 + j, none⟩ := by unfold Addr.add; split <;> simp_all
    first | exact this | (rw [e] at this; exact this) | (rw [Nat.zero_add]; exact this)⟩
theorem rowsI_ints {w : World} {B : Nat} {v : Value} {l : List Int} (h : RowsI w B v l) : ∃ a c, v = .slice a l.length c ∧ Ints w w.heap.size a l := by
  rcases h.2 with ⟨e, h0⟩ | ⟨g, cap, cur, e, _⟩
  · have : l = [] := List.length_eq_zero_iff.1 h0
    subst this
    exact ⟨none, 0, e, fun h => absurd h (Nat.lt_irrefl _)⟩
  · subst e
    exact ⟨_, _, rfl, rowI_ints h⟩
/-- l3Least over the three codes, new in the memory. -/
theorem least_call {w : World} {a : Option Addr} {l : List Int} {cap : Nat} (h : Ints w w.heap.size a l) (hl : l.length ≤ 1048576 + 1) :
    Calls Tryz.prog 122 #[.slice a l.length cap, .slice (some ⟨w.heap.size, 0, none⟩) 3 3] (w.alloc (Obj.cells #[.int .i64 431, .int .i64 501, .int .i64 413] 3)) fun e w' => e = .returned (.int .i64 (leastF l [431, 501, 413])) ∧ Below w.heap.size w w' := by
  have hb : Below w.heap.size w (w.alloc (Obj.cells #[.int .i64 431, .int .i64 501, .int .i64 413] 3)) := (Below.refl _ _).alloc (Nat.le_refl _) _
  have h2 : Ints (w.alloc (Obj.cells #[.int .i64 431, .int .i64 501, .int .i64 413] 3)) (w.heap.size + 1) (some ⟨w.heap.size, 0, none⟩) [431, 501, 413] := fun _ => by
    refine ⟨w.heap.size, 0, rfl, Nat.lt_succ_self _, fun j hj => ?_⟩
    unfold World.cell?
    rw [heap_alloc_new]
    match j, hj with
    | 0, _ => rfl
    | 1, _ => rfl
    | 2, _ => rfl
  refine (l3Least_any a (some ⟨w.heap.size, 0, none⟩) l [431, 501, 413] cap 3 _ _ _ (h.below hb (Nat.le_refl _)) h2 (by omega) (by decide)).mono ?_
  rintro e w' ⟨rfl, hb2⟩
  exact ⟨rfl, hb.trans (hb2 _)⟩
/-- What l3Read hands back. -/
def ReadSIs (C N : Nat) (w0 : World) (r : Option (ByteArray × ByteArray × List Hd)) (e : Ending) (W : World) : Prop :=
  Below C w0 W ∧ match r with
  | none => e = .returned (.int .i64 400)
  | some (m, p, hs) => e = .returned (.int .i64 (frameC hs)) ∧ (frameC hs = 0 → ∃ t cs lv ls, FrR C N w0 m p (othOf hs) (sizeF hs) t cs lv ls W)
/-- Where a line is not taken, the code is 400. -/
theorem ReadSIs.bad {C N : Nat} {w0 W : World} {t l0 : List UInt8} {lr : List (List UInt8)} {mp : ByteArray × ByteArray} (hL : linesL t = l0 :: lr) (hf : firstS l0 = some mp) (hk : okLines lr = none) (hb : Below C w0 W) : ReadSIs C N w0 (readS t) (.returned (.int .i64 400)) W := by
  obtain ⟨m, p⟩ := mp
  refine ⟨hb, ?_⟩
  unfold readS
  rw [hL]
  simp only [hf]
  rw [okLines_is] at hk
  cases hh : headsS lr with
  | none => exact trivial
  | some hs =>
    rw [hh] at hk
    simp only at hk
    have ha : (lensOf hs).all numOk = false := by
      cases e : (lensOf hs).all numOk
      · rfl
      · rw [e] at hk; simp at hk
    have hc : frameC hs = 400 := by
      unfold frameC
      by_cases h1 : 1 < (lensOf hs).length + (codsOf hs).length
      · rw [if_pos h1]
      · rw [if_neg h1, if_pos ha]
    show _ = _ ∧ _
    refine ⟨by rw [hc], fun h => ?_⟩
    rw [hc] at h; cases h
theorem ReadSIs.first {C N : Nat} {w0 W : World} {t l0 : List UInt8} {lr : List (List UInt8)} (hL : linesL t = l0 :: lr) (hf : firstS l0 = none) (hb : Below C w0 W) : ReadSIs C N w0 (readS t) (.returned (.int .i64 400)) W := by
  refine ⟨hb, ?_⟩
  unfold readS
  rw [hL]
  simp only [hf]
theorem readS_of {t l0 : List UInt8} {lr : List (List UInt8)} {m p : ByteArray} {hs : List Hd} (hL : linesL t = l0 :: lr) (hf : firstS l0 = some (m, p)) (hk : okLines lr = some hs) : readS t = some (m, p, hs) ∧ (lensOf hs).all numOk = true := by
  rw [okLines_is] at hk
  cases hh : headsS lr with
  | none => rw [hh] at hk; cases hk
  | some hs' =>
    rw [hh] at hk
    simp only at hk
    cases e : (lensOf hs').all numOk
    · rw [e] at hk; simp at hk
    · rw [e] at hk
      simp at hk
      subst hk
      refine ⟨?_, e⟩
      unfold readS
      rw [hL]
      simp [hf, hh]
theorem linesL_le : ∀ (n : Nat) (l : List UInt8), l.length ≤ n → ∀ x ∈ linesL l, x.length ≤ l.length := by
  intro n
  induction n with
  | zero => intro l hl x hx; have : l = [] := List.length_eq_zero_iff.1 (by omega); subst this; simp [linesL] at hx; subst hx; simp
  | succ n ih =>
    intro l hl x hx
    match l, hl, hx with
    | [], _, hx => simp [linesL] at hx; subst hx; simp
    | [y], _, hx => simp [linesL] at hx; subst hx; simp
    | y :: z :: r, hl, hx =>
      rw [linesL] at hx
      split at hx
      · rcases List.mem_cons.1 hx with rfl | hx
        · simp
        · have := ih r (by simp at hl; omega) x hx; simp; omega
      · split at hx
        · simp at hx; subst hx; simp
        · rename_i l' q e
          have h2 := ih (z :: r) (by simp at hl ⊢; omega)
          rcases List.mem_cons.1 hx with rfl | hx
          · have := h2 l' (by rw [e]; simp); simp at this ⊢; omega
          · have := h2 x (by rw [e]; simp [hx]); simp at this ⊢; omega
set_option maxRecDepth 100000 in
set_option maxHeartbeats 4000000 in
theorem l3Read_any (C N : Nat) (w0 : World) (lv0 : Value) (ls0 : List ByteArray) (s : ByteArray) (w : World) (h : FrS C N w0 ⟨#[]⟩ ⟨#[]⟩ [] lv0 ls0 w) (hs : s.size ≤ 1048576) :
    Calls Tryz.prog 81 #[.pointer (some ⟨N, 0, none⟩), .string s] w fun e w' => ReadSIs C N w0 (readS s.data.toList) e w' := by
  have HF := hide h
  have HLi := hide (l3Lines_any s w hs)
  have el : s.data.toList.length = s.size := Array.length_toList
  have hlen : (linesL s.data.toList).length ≤ 1048577 := by have := linesL_len s.data.toList; omega
  have hle := linesL_le _ s.data.toList (Nat.le_refl _)
  obtain ⟨l0, lr, hL⟩ : ∃ l0 lr, linesL s.data.toList = l0 :: lr := by
    cases e : linesL s.data.toList with
    | nil => exact absurd e (linesL_ne _)
    | cons a b => exact ⟨a, b, rfl⟩
  have HL := hide hL
  have hbs : linesB s.data.toList = bytesOf l0 :: lr.map bytesOf := by unfold linesB; rw [hL]; rfl
  rw [hL] at hlen hle
  rw [hbs] at HLi
  have hsz : ∀ x ∈ l0 :: lr, (bytesOf x).size ≤ 1048576 := fun x hx => by
    have := hle x hx
    have e : (bytesOf x).size = x.length := by simp [bytesOf, ByteArray.size]
    omega
  have HSz := hide hsz
  have hn : (bytesOf l0 :: lr.map bytesOf).length = lr.length + 1 := by simp
  rw [hn] at HLi
  have hn2 : lr.length ≤ 1048576 := by simp at hlen; omega
  clear h hL hbs hle hsz hlen el
  go_enter Tryz.func81, Tryz.ntmps81
  go_wp2_with fail
  refine HLi.out.mono ?_
  rintro e w1 ⟨⟨g, cap, rfl, hown⟩, b1⟩
  have hown' : w1.ownsRow w.heap.size 9 1 (.slice (some ⟨g, 0, none⟩) (lr.length + 1) cap) (bytesOf l0 :: lr.map bytesOf).length (strCells (bytesOf l0 :: lr.map bytesOf)) := by rw [hn]; exact hown
  have hF1 := HF.out.lines b1 hown'
  have r0 := rowS_cell hown 0 (by simp)
  simp only [List.getElem_cons_zero] at r0
  have HF1 := hide hF1
  have HFi := hide (l3First_any C N w0 _ _ _ _ _ (bytesOf l0) w1 hF1 (HSz.out l0 (by simp)))
  clear hown hown' hF1 b1 HLi
  go_wp2_with fail
  refine HFi.out.mono ?_
  rintro e w2 he
  clear HFi r0
  have hd0 : (bytesOf l0).data.toList = l0 := rfl
  rw [hd0] at he
  cases hf : firstS l0 with
  | none =>
    rw [hf] at he
    obtain ⟨rfl, hb2⟩ : e = .returned (.bool false) ∧ Below C w0 w2 := he
    have HE := hide (ReadSIs.first (N := N) HL.out hf hb2)
    go_wp2
    go_ret
    exact HE.out
  | some mp =>
    obtain ⟨m, p⟩ := mp
    rw [hf] at he
    obtain ⟨rfl, hF2⟩ : e = .returned (.bool true) ∧ FrS C N w0 m p [] (.slice (some ⟨g, 0, none⟩) (lr.length + 1) cap) (bytesOf l0 :: lr.map bytesOf) w2 := he
    have HF2 := hide hF2
    have Hf := hide hf
    clear hF2 hf hd0
    go_wp2
    go_loopw [6] (fun i wr => ∃ (k : Nat) (hs : List Hd), i = .int .i64 ((k : Int) + 1) ∧ k ≤ lr.length ∧ okLines (lr.take k) = some hs ∧ hs.length ≤ k ∧ FrS C N w0 m p hs (.slice (some ⟨g, 0, none⟩) (lr.length + 1) cap) (bytesOf l0 :: lr.map bytesOf) wr) (fun i _ => lr.length + 1 - (intOf i).toNat)
    case atStart => exact ⟨0, [], rfl, Nat.zero_le _, rfl, Nat.le_refl _, HF2.out⟩
    case round =>
      obtain ⟨k, hs', rfl, hk, hok, hhl, hFk⟩ := hrel
      have HOk := hide hok
      have HFk := hide hFk
      clear hok hFk
      by_cases hlt : k < lr.length
      · have hlt' : (k : Int) + 1 < (lr.length : Int) + 1 := by omega
        have hcl := HFk.out.line (k + 1) (by simp; omega) (by simp)
        simp only [List.getElem_cons_succ, List.getElem_map] at hcl
        have hmem : lr[k] ∈ l0 :: lr := List.mem_cons_of_mem _ (List.getElem_mem hlt)
        have HHd := hide (l3Head_any C N w0 m p hs' _ _ (bytesOf lr[k]) wr HFk.out (HSz.out _ hmem) (by omega))
        have hd : (bytesOf lr[k]).data.toList = lr[k] := rfl
        rw [hd] at HHd
        have hsn := okLines_snoc (lr.take k) lr[k] hs' HOk.out
        rw [← List.take_succ_eq_append_getElem hlt] at hsn
        have HSn := hide hsn
        clear hmem hd hsn
        go_wp2_with fail
        refine HHd.out.mono ?_
        rintro e w3 he
        clear HHd hcl
        cases ho : okLine lr[k] with
        | none =>
          rw [ho] at he
          obtain ⟨rfl, hb3⟩ : e = .returned (.int .i64 400) ∧ Below C w0 w3 := he
          have hnone : okLines lr = none := by
            have h1 : okLines (lr.take (k + 1)) = none := by rw [HSn.out, ho]; rfl
            have h2 := okLines_bad (lr.take (k + 1)) (lr.drop (k + 1)) h1
            rwa [List.take_append_drop] at h2
          have HE := hide (ReadSIs.bad (N := N) HL.out Hf.out hnone hb3)
          clear ho hnone
          go_wp2
          go_ret
          exact HE.out
        | some x =>
          rw [ho] at he
          obtain ⟨rfl, hF3⟩ : e = .returned (.int .i64 0) ∧ FrS C N w0 m p (hs' ++ [x]) (.slice (some ⟨g, 0, none⟩) (lr.length + 1) cap) (bytesOf l0 :: lr.map bytesOf) w3 := he
          have HF3 := hide hF3
          have HN : Hid (okLines (lr.take (k + 1)) = some (hs' ++ [x])) := hide (by rw [HSn.out, ho]; rfl)
          clear ho hF3
          go_wp2
          go_roundw
          case rel => exact ⟨k + 1, hs' ++ [x], by go_num, by omega, HN.out, by rw [List.length_append]; simp; omega, HF3.out⟩
          case measure => simp [intOf]; omega
      · have hlt' : ¬ (k : Int) + 1 < (lr.length : Int) + 1 := by omega
        have hok : okLines lr = some hs' := by have := HOk.out; rwa [List.take_of_length_le (by omega)] at this
        obtain ⟨hrd, hall⟩ := readS_of HL.out Hf.out hok
        have HRd := hide hrd
        have HAll := hide hall
        obtain ⟨c4, c5, f4, f5⟩ := FrR.cells HFk.out
        have htl : toldF hs' ≤ 4194304 := by unfold toldF; have := lens_le hs'; have := cods_le hs'; omega
        clear hok hrd hall
        by_cases htd : 1 < toldF hs'
        · have htd' : (1 : Int) < (toldF hs' : Int) := by omega
          have hc : frameC hs' = 400 := by unfold frameC; rw [if_pos (show 1 < (lensOf hs').length + (codsOf hs').length from htd)]
          have HE : Hid (ReadSIs C N w0 (readS s.data.toList) (.returned (.int .i64 400)) wr) := hide (by
            rw [HRd.out]
            exact ⟨HFk.out.bel.1, by rw [hc], fun h => by rw [hc] at h; cases h⟩)
          clear hc
          go_wp2
          go_ret
          exact HE.out
        · have htd' : ¬ (1 : Int) < (toldF hs' : Int) := by omega
          have hlst := least_is hs' (by omega) HAll.out
          have HLst := hide hlst
          clear hlst
          by_cases hsz2 : 200 < sizeF hs'
          · obtain ⟨hv, cv, h1, h2, h3, h4, h5, h6, h7, h8, h9⟩ := HFk.out
            have c6 : wr.cell? ⟨N, 6, none⟩ = some cv := by unfold World.cell?; rw [h1]; rfl
            have hNlt : N < wr.heap.size := (Array.getElem?_eq_some_iff.1 h1).1
            have hlc : (codesF hs').length + 1 ≤ 1048577 := by have := codes_len_le hs'; omega
            have hcg : codesG hs' = codesF hs' ++ [413] := by unfold codesG; rw [if_pos hsz2]
            have HCg := hide hcg
            have HH1 := hide h1
            have HH2 := hide h2
            have HH3 := hide h3
            have HH4 := hide h4
            have HH8 := hide h8
            clear h1 h2 h3 h4 h8 hcg
            go_wp2_with (at_builtin; refine wp_append_int2 rfl _ _ rfl (N + 1) cv (codesF hs').length (codesF hs') rfl (row_alloc HH3.out _) wr.heap.size 413 rfl ?c1 ?c2 ?c3 ?_)
            case c2 => omega
            case c3 => first | omega | (simp; omega)
            intro g6 cap6 w6 ho hg hwh
            have hbg := row_grown (row_alloc HH3.out (Obj.cells #[.int .i64 413] 3)) (by simp; omega) hg
            have h1' := (hbg.block N (Nat.lt_succ_self _)).trans ((((Below.refl wr.heap.size wr).alloc (Nat.le_refl _) (Obj.cells #[.int .i64 413] 3)).block N hNlt).trans HH1.out)
            have cc' : w6.cell? ⟨N, 6, none⟩ = some cv := by unfold World.cell?; rw [h1']; rfl
            have ff' : w6.frozen? ⟨N, 6, none⟩ = false := by unfold World.frozen?; rw [h1']; rfl
            obtain ⟨W5, hW5⟩ : ∃ W5, w6.setCell ⟨N, 6, none⟩ (.slice (some ⟨g6, 0, none⟩) ((codesF hs').length + 1) cap6) = W5 := ⟨_, rfl⟩
            have hF5 := fr_codes HH1.out HH2.out HH3.out HH4.out h5 h6 h7 HH8.out h9 ((Below.refl wr.heap.size wr).alloc (Nat.le_refl _) _) hg ho (by simpa using hwh)
            rw [hW5] at hF5
            have q6 : W5.cell? ⟨N, 6, none⟩ = some (.slice (some ⟨g6, 0, none⟩) ((codesF hs').length + 1) cap6) := by rw [← hW5]; exact World.cell?_setCell_same _ _ _ cc'
            have hin : Ints W5 W5.heap.size (some ⟨g6, 0, none⟩) (codesF hs' ++ [413]) := by
              have hrow := ownsRow_setCell_below (a := ⟨N, 6, none⟩) ho (Nat.lt_succ_self _) (.slice (some ⟨g6, 0, none⟩) ((codesF hs').length + 1) cap6)
              rw [hW5] at hrow
              exact rowI_ints hrow
            have HF5 := hide hF5
            have HLe := hide (least_call (a := some ⟨g6, 0, none⟩) (cap := cap6) hin (by rw [List.length_append]; simp; omega))
            clear ho hg hwh hbg h1' hF5 hin c4 c5 f4 f5 HH1 HH2 HH3 HH4 HH8 c6
            have el2 : (codesF hs' ++ [413]).length = (codesF hs').length + 1 := by rw [List.length_append]; rfl
            rw [el2] at HLe
            clear el2
            go_wp2_with fail
            refine HLe.out.mono ?_
            rintro e w9 ⟨rfl, b9⟩
            have hF9 := FrR.next HF5.out b9
            have HF9 := hide hF9
            clear hF9 b9 HLe
            go_wp2
            go_ret
            rw [HRd.out]
            exact ⟨HF9.out.bel.1, ret_intE (by rw [← HLst.out, HCg.out]), fun _ => ⟨_, _, _, _, HF9.out⟩⟩
          · have hcg : codesG hs' = codesF hs' := by unfold codesG; rw [if_neg hsz2, List.append_nil]
            have hsz3 : ¬ (200 : Int) < sizeF hs' := hsz2
            obtain ⟨hv, cv, h1, h2, h3, h4, h5, h6, h7, h8, h9⟩ := HFk.out
            obtain ⟨a, c, rfl, hin⟩ := rowsI_ints h3
            have c6 : wr.cell? ⟨N, 6, none⟩ = some (.slice a (codesF hs').length c) := by unfold World.cell?; rw [h1]; rfl
            have HCg := hide hcg
            have hlc : (codesF hs').length ≤ 1048577 := by have := codes_len_le hs'; omega
            have HLe := hide (least_call (a := a) (cap := c) hin (by omega))
            clear h1 h2 h3 h4 h8 hcg hin
            go_wp2_with fail
            refine HLe.out.mono ?_
            rintro e w9 ⟨rfl, b9⟩
            have hF9 := FrR.next HFk.out b9
            have HF9 := hide hF9
            clear hF9 b9 HLe
            go_wp2
            go_ret
            rw [HRd.out]
            exact ⟨HF9.out.bel.1, ret_intE (by rw [← HLst.out, HCg.out]), fun _ => ⟨_, _, _, _, HF9.out⟩⟩
end Go.Proofs.YtanebchmeaomgaaGreatDoor
