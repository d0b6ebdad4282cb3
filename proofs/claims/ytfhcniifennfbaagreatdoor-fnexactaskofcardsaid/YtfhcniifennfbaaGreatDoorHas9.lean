/-
  What impl.cutCond does.
  What impl.cutList does.
  What impl.ParseIf does.
  ParseIf on both sides, over views.
  What the specification's l1Blank and Trim do.
  Rows of texts that the call itself made: one more behind, one taken away, what it hands on.
  What the specification's l9Tag and l9Split do.
  What the specification's ParseTags does.
  What strings.Clone does.
  What the program's Trim does.
  What the program's ParseTags does.
  Whether a text is one of a list: what spec.l9Has does.
-/
import Derived.Test.YtfhcniifennfbaaGreatDoorCutIf1
import Derived.Test.YtfhcniifennfbaaGreatDoorSliceEq
import Derived.Test.YtfhcniifennfbaaGreatDoorMathMark2
import Derived.Test.YtfhcniifennfbaaGreatDoorKinds
import Derived.Test.YtfhcniifennfbaaGreatDoorMathLock
import Derived.Test.YtfhcniifennfbaaGreatDoorMathHex
import Derived.WalkSmall
import Derived.Laws.OwnMore
import Derived.Test.YtfhcniifennfbaaGreatDoorShelf
import Derived.WalkKit
import Derived.WalkSpells
import Derived.WalkLawsBesides
import Derived.Test.YtfhcniifennfbaaGreatDoorCutTag
import Derived.Deep.Light
namespace Go.Proofs.YtfhcniifennfbaaGreatDoor
open Go.RowKit M
set_option linter.unusedVariables false

theorem cutPreL (l : List UInt8) (c : UInt8) (w : World) :
    Calls Tryz.prog 97 #[.string (bytesOf l), .string ⟨#[c]⟩] w fun e w' => e = .returned (.tuple #[.string (bytesOf (if l.head? = some c then l.tail else l)), .bool (decide (l.head? = some c))]) ∧ w' = w := by
  have h := cutPre_any (bytesOf l) c w
  rw [bytesI, List.drop_one] at h
  exact h
theorem cutPre_ex (r : ByteArray) (c : UInt8) : ∃ (t : ByteArray) (b : Bool), ∀ W, Calls Tryz.prog 97 #[.string r, .string ⟨#[c]⟩] W fun e w' => e = .returned (.tuple #[.string t, .bool b]) ∧ w' = W := ⟨_, _, fun W => cutPre_any r c W⟩
theorem cutPre_yes {l : List UInt8} {c : UInt8} (h : l.head? = some c) (w : World) :
    Calls Tryz.prog 97 #[.string (bytesOf l), .string ⟨#[c]⟩] w fun e w' => e = .returned (.tuple #[.string (bytesOf l.tail), .bool true]) ∧ w' = w := by
  have h1 := cutPreL l c w
  rw [if_pos h, decide_eq_true h] at h1
  exact h1
theorem cutPre_no {l : List UInt8} {c : UInt8} (h : ¬ l.head? = some c) (w : World) :
    Calls Tryz.prog 97 #[.string (bytesOf l), .string ⟨#[c]⟩] w fun e w' => e = .returned (.tuple #[.string (bytesOf l), .bool false]) ∧ w' = w := by
  have h1 := cutPreL l c w
  rw [if_neg h, decide_eq_false h] at h1
  exact h1
theorem cutNotI (l : List UInt8) (w : World) :
    Calls Tryz.prog 97 #[.string (bytesOf l), .string ⟨#[78, 111, 116, 32]⟩] w fun e w' => e = .returned (.tuple #[.string (bytesOf (cutNot l).2), .bool (cutNot l).1]) ∧ w' = w := by
  have h := Tryz.strings_CutPrefix (bytesOf l) ⟨#[78, 111, 116, 32]⟩ w
  have e1 : (⟨#[78, 111, 116, 32]⟩ : ByteArray).data.toList = notL := rfl
  rw [e1, bytesI] at h
  have e2 : Lib.hasPrefix l notL = (cutNot l).1 := by
    unfold Lib.hasPrefix cutNot
    cases notL.isPrefixOf l <;> simp
  have e3 : Lib.trimPrefix l notL = (cutNot l).2 := by
    unfold Lib.trimPrefix Lib.hasPrefix cutNot
    cases notL.isPrefixOf l <;> simp [notL]
  rw [e2, e3] at h
  exact h
theorem cutFull_any (l : List UInt8) (hl : l.length ≤ 1048576) : ∃ (t r : ByteArray) (ok : Bool), ∀ W, Calls Tryz.prog 174 #[.string (bytesOf l)] W fun e w' => e = .returned (.tuple #[.string t, .string r, .bool ok]) ∧ Below W.heap.size W w' := by
  cases hc : cutT l with
  | none => exact ⟨_, _, _, fun W => cutFull_none l W hl hc⟩
  | some p => exact ⟨_, _, _, fun W => cutFull_some l p.1 p.2 W hl hc⟩

/-- What the reading of one comes to. -/
def CondI (l : List UInt8) (e : Ending) : Prop := match condL l with
  | none => ∃ (c : Cn) (r : ByteArray), e = .returned (.tuple #[.agg #[.bool c.no, .int .i64 c.tk, .string c.tg], .string r, .bool false])
  | some (c, q) => e = .returned (.tuple #[.agg #[.bool c.no, .int .i64 c.tk, .string c.tg], .string (bytesOf q), .bool true])
theorem condI_no {l : List UInt8} (h : condL l = none) (no : Bool) (tk : Int) (tg r : ByteArray) : CondI l (.returned (.tuple #[.agg #[.bool no, .int .i64 tk, .string tg], .string r, .bool false])) := by
  unfold CondI
  rw [h]
  exact ⟨⟨no, tk, tg⟩, r, rfl⟩
theorem condI_tok {l : List UInt8} (h : (cutNot l).2.head? = some 60) : CondI l (.returned (.tuple #[.agg #[.bool (cutNot l).1, .int .i64 (parseNum (upTo 62 (cutNot l).2.tail) 9999).1, .string ⟨#[]⟩], .string (bytesOf (fromB 62 (cutNot l).2.tail).tail), .bool (okT (cutNot l).2.tail)])) := by
  have hc : condL l = tokC (cutNot l).1 (cutNot l).2.tail := by unfold condL bodyC; rw [if_pos h]
  rw [tokC_is] at hc
  cases hk : okT (cutNot l).2.tail
  · rw [hk, if_neg (by simp)] at hc
    exact condI_no hc _ _ _ _
  · rw [hk, if_pos rfl] at hc
    unfold CondI
    rw [hc]
theorem cond_else {l : List UInt8} (h : ¬ (cutNot l).2.head? = some 60) (h2 : ¬ (cutNot l).2.head? = some 91) : condL l = none := by
  unfold condL bodyC
  rw [if_neg h, if_neg h2]
theorem cond_tag {l : List UInt8} (h : ¬ (cutNot l).2.head? = some 60) (h2 : (cutNot l).2.head? = some 91) : condL l = tagC (cutNot l).1 (cutNot l).2.tail := by
  unfold condL bodyC
  rw [if_neg h, if_pos h2]

set_option maxRecDepth 100000 in
set_option maxHeartbeats 8000000 in
theorem cutCond_any (l : List UInt8) (w : World) (hl : l.length ≤ 1048576) :
    Calls Tryz.prog 146 #[.string (bytesOf l)] w fun e w' => CondI l e ∧ Below w.heap.size w w' := by
  have b0 := (Below.refl w.heap.size w).alloc (Nat.le_refl _) (Obj.cells #[.bool false, .int .i64 0, .string { data := #[] }] 136)
  have HB0 := hide b0
  have HX0 := hide (BoxV.made w [.bool false, .int .i64 0, .string { data := #[] }] 136)
  have HN := hide (fun W => cutNotI l W)
  have hl1 := cutNot_len l
  have HTK := hide (@condI_tok l)
  have HEL := hide (@cond_else l)
  have HTG := hide (@cond_tag l)
  have HNO := hide (@condI_no l)
  obtain ⟨z1, hz1⟩ : ∃ z, (cutNot l).1 = z := ⟨_, rfl⟩
  obtain ⟨l1, hl1e⟩ : ∃ z, (cutNot l).2 = z := ⟨_, rfl⟩
  rw [hz1, hl1e] at HN HTK HTG
  rw [hl1e] at HEL hl1
  clear hz1 hl1e b0
  go_enter Tryz.func146, Tryz.ntmps146
  go_wp2_with fail
  refine (HN.out _).mono ?_
  rintro e w1 ⟨rfl, hw⟩
  subst hw
  clear HN
  by_cases h60 : l1.head? = some 60
  · have HP := hide (fun W => cutPre_yes h60 W)
    have HRET := hide (HTK.out h60)
    have HT := hide (fun W => cutToken_any l1.tail W (by rw [List.length_tail]; omega))
    generalize (parseNum (upTo 62 l1.tail) 9999).1 = n at *
    generalize okT l1.tail = ok at *
    generalize (fromB 62 l1.tail).tail = r at *
    clear HTK HEL HTG HNO h60
    go_wp2_with fail
    refine (HP.out _).mono ?_
    rintro e w1 ⟨rfl, hw⟩
    subst hw
    go_wp2_with fail
    refine (HT.out _).mono ?_
    rintro e w1 ⟨rfl, b1⟩
    have HX := hide (HX0.out.next b1)
    have HB := hide (HB0.out.trans (b1.mono HB0.out.size))
    obtain ⟨q0, k0⟩ := HX.out.2 0 _ rfl
    obtain ⟨q1, k1⟩ := HX.out.2 1 _ rfl
    obtain ⟨q2, k2⟩ := HX.out.2 2 _ rfl
    clear b1 HX HX0 HB0 HP HT
    go_wp2
    refine bodyPost_ret (v := .tuple #[.agg #[.bool z1, .int .i64 n, .string { data := #[] }], .string (bytesOf r), .bool ok]) (by simp [results, Tryz.results146, go_sem, q0, q1, q2]) rfl ⟨HRET.out, ((HB.out.setCell (Nat.le_refl _) _).setCell (Nat.le_refl _) _).setCell (Nat.le_refl _) _⟩
  · have HP := hide (fun W => cutPre_no h60 W)
    have HEL2 := hide (HEL.out h60)
    have HTG2 := hide (HTG.out h60)
    clear HTK HEL HTG h60
    go_wp2_with fail
    refine (HP.out _).mono ?_
    rintro e w1 ⟨rfl, hw⟩
    subst hw
    clear HP
    by_cases h91 : l1.head? = some 91
    · have HP := hide (fun W => cutPre_yes h91 W)
      have HC := hide (HTG2.out h91)
      obtain ⟨l2, hl2⟩ : ∃ z, l1.tail = z := ⟨_, rfl⟩
      have hl2l : l2.length ≤ 1048576 := by rw [← hl2, List.length_tail]; omega
      rw [hl2] at HP HC
      clear HEL2 HTG2 h91 hl2
      go_wp2_with fail
      refine (HP.out _).mono ?_
      rintro e w1 ⟨rfl, hw⟩
      subst hw
      clear HP
      cases hc : cutT l2 with
      | none =>
        have HF := hide (fun W => cutFull_none l2 W hl2l hc)
        have HCN := hide (show condL l = none by rw [HC.out]; unfold tagC; rw [hc])
        have HRET := hide (HNO.out HCN.out z1 0 (bytesOf (tagL [])))
        obtain ⟨r2, ok2, HQ0⟩ := cutPre_ex ⟨#[]⟩ 93
        have HQ := hide HQ0
        clear HQ0
        clear hc HC HCN HNO
        go_wp2_with fail
        refine (HF.out _).mono ?_
        rintro e w1 ⟨rfl, b1⟩
        have HX := hide (HX0.out.next b1)
        have HB := hide (HB0.out.trans (b1.mono HB0.out.size))
        obtain ⟨q0, k0⟩ := HX.out.2 0 _ rfl
        obtain ⟨q1, k1⟩ := HX.out.2 1 _ rfl
        obtain ⟨q2, k2⟩ := HX.out.2 2 _ rfl
        clear b1 HX HX0 HB0 HF
        go_wp2_with fail
        refine (HQ.out _).mono ?_
        rintro e w2 ⟨rfl, hw⟩
        subst hw
        go_wp2
        refine bodyPost_ret (v := .tuple #[.agg #[.bool z1, .int .i64 0, .string (bytesOf (tagL []))], .string r2, .bool false]) (by simp [results, Tryz.results146, go_sem, q0, q1, q2]) rfl ⟨HRET.out _, ((HB.out.setCell (Nat.le_refl _) _).setCell (Nat.le_refl _) _).setCell (Nat.le_refl _) _⟩
      | some p =>
        obtain ⟨m, r⟩ := p
        have HF := hide (fun W => cutFull_some l2 m r W hl2l hc)
        have HCN := hide (show condL l = if m = [] then none else if r.head? = some 93 then some (⟨z1, 0, bytesOf (tagL m)⟩, r.tail) else none by rw [HC.out]; unfold tagC; rw [hc])
        clear hc HC
        by_cases hm : m = []
        · rw [if_pos hm] at HCN
          rw [show decide (0 < m.length) = false by rw [hm]; rfl] at HF
          have HRET := hide (HNO.out HCN.out z1 0 (bytesOf (tagL m)))
          obtain ⟨r2, ok2, HQ0⟩ := cutPre_ex (bytesOf r) 93
          have HQ := hide HQ0
          clear HQ0
          clear HCN HNO hm
          go_wp2_with fail
          refine (HF.out _).mono ?_
          rintro e w1 ⟨rfl, b1⟩
          have HX := hide (HX0.out.next b1)
          have HB := hide (HB0.out.trans (b1.mono HB0.out.size))
          obtain ⟨q0, k0⟩ := HX.out.2 0 _ rfl
          obtain ⟨q1, k1⟩ := HX.out.2 1 _ rfl
          obtain ⟨q2, k2⟩ := HX.out.2 2 _ rfl
          clear b1 HX HX0 HB0 HF
          go_wp2_with fail
          refine (HQ.out _).mono ?_
          rintro e w2 ⟨rfl, hw⟩
          subst hw
          go_wp2
          refine bodyPost_ret (v := .tuple #[.agg #[.bool z1, .int .i64 0, .string (bytesOf (tagL m))], .string r2, .bool false]) (by simp [results, Tryz.results146, go_sem, q0, q1, q2]) rfl ⟨HRET.out _, ((HB.out.setCell (Nat.le_refl _) _).setCell (Nat.le_refl _) _).setCell (Nat.le_refl _) _⟩
        · rw [if_neg hm] at HCN
          rw [show decide (0 < m.length) = true by rw [decide_eq_true_eq]; exact List.length_pos_iff.2 hm] at HF
          by_cases h93 : r.head? = some 93
          · rw [if_pos h93] at HCN
            have HRET := hide (show CondI l (.returned (.tuple #[.agg #[.bool z1, .int .i64 0, .string (bytesOf (tagL m))], .string (bytesOf r.tail), .bool true])) by unfold CondI; rw [HCN.out])
            have HQ := hide (fun W => cutPre_yes h93 W)
            clear HCN HNO hm h93
            go_wp2_with fail
            refine (HF.out _).mono ?_
            rintro e w1 ⟨rfl, b1⟩
            have HX := hide (HX0.out.next b1)
            have HB := hide (HB0.out.trans (b1.mono HB0.out.size))
            obtain ⟨q0, k0⟩ := HX.out.2 0 _ rfl
            obtain ⟨q1, k1⟩ := HX.out.2 1 _ rfl
            obtain ⟨q2, k2⟩ := HX.out.2 2 _ rfl
            clear b1 HX HX0 HB0 HF
            go_wp2_with fail
            refine (HQ.out _).mono ?_
            rintro e w2 ⟨rfl, hw⟩
            subst hw
            go_wp2
            refine bodyPost_ret (v := .tuple #[.agg #[.bool z1, .int .i64 0, .string (bytesOf (tagL m))], .string (bytesOf r.tail), .bool true]) (by simp [results, Tryz.results146, go_sem, q0, q1, q2]) rfl ⟨HRET.out, ((HB.out.setCell (Nat.le_refl _) _).setCell (Nat.le_refl _) _).setCell (Nat.le_refl _) _⟩
          · rw [if_neg h93] at HCN
            have HRET := hide (HNO.out HCN.out z1 0 (bytesOf (tagL m)) (bytesOf r))
            have HQ := hide (fun W => cutPre_no h93 W)
            clear HCN HNO hm h93
            go_wp2_with fail
            refine (HF.out _).mono ?_
            rintro e w1 ⟨rfl, b1⟩
            have HX := hide (HX0.out.next b1)
            have HB := hide (HB0.out.trans (b1.mono HB0.out.size))
            obtain ⟨q0, k0⟩ := HX.out.2 0 _ rfl
            obtain ⟨q1, k1⟩ := HX.out.2 1 _ rfl
            obtain ⟨q2, k2⟩ := HX.out.2 2 _ rfl
            clear b1 HX HX0 HB0 HF
            go_wp2_with fail
            refine (HQ.out _).mono ?_
            rintro e w2 ⟨rfl, hw⟩
            subst hw
            go_wp2
            refine bodyPost_ret (v := .tuple #[.agg #[.bool z1, .int .i64 0, .string (bytesOf (tagL m))], .string (bytesOf r), .bool false]) (by simp [results, Tryz.results146, go_sem, q0, q1, q2]) rfl ⟨HRET.out, ((HB.out.setCell (Nat.le_refl _) _).setCell (Nat.le_refl _) _).setCell (Nat.le_refl _) _⟩
    · have HP := hide (fun W => cutPre_no h91 W)
      have HRET := hide (HNO.out (HEL2.out h91) z1 0)
      obtain ⟨t, r, ok, HF0⟩ := cutFull_any l1 (by omega)
      have HF := hide HF0
      obtain ⟨r2, ok2, HQ0⟩ := cutPre_ex r 93
      have HQ := hide HQ0
      clear HQ0
      clear HEL2 HTG2 HNO h91 HF0
      go_wp2_with fail
      refine (HP.out _).mono ?_
      rintro e w1 ⟨rfl, hw⟩
      subst hw
      clear HP
      go_wp2_with fail
      refine (HF.out _).mono ?_
      rintro e w1 ⟨rfl, b1⟩
      have HX := hide (HX0.out.next b1)
      have HB := hide (HB0.out.trans (b1.mono HB0.out.size))
      obtain ⟨q0, k0⟩ := HX.out.2 0 _ rfl
      obtain ⟨q1, k1⟩ := HX.out.2 1 _ rfl
      obtain ⟨q2, k2⟩ := HX.out.2 2 _ rfl
      clear b1 HX HX0 HB0 HF
      go_wp2_with fail
      refine (HQ.out _).mono ?_
      rintro e w2 ⟨rfl, hw⟩
      subst hw
      go_wp2
      refine bodyPost_ret (v := .tuple #[.agg #[.bool z1, .int .i64 0, .string (t)], .string r2, .bool false]) (by simp [results, Tryz.results146, go_sem, q0, q1, q2]) rfl ⟨HRET.out t r2, ((HB.out.setCell (Nat.le_refl _) _).setCell (Nat.le_refl _) _).setCell (Nat.le_refl _) _⟩
end Go.Proofs.YtfhcniifennfbaaGreatDoor
namespace Go.Proofs.YtfhcniifennfbaaGreatDoor
open Go.RowKit M
set_option linter.unusedVariables false

theorem infoCnI : (Tryz.prog.info? 136).map (fun i => (i.zero, i.size, i.bytes)) = some (some (.agg #[.bool false, .int .i64 0, .string { data := #[] }]), 3, 32) := by kernel_rfl
/-- How much is left to be read. -/
def moreI (m v : Value) : Nat := match m, v with
  | .bool true, .string s => s.size + 1
  | _, _ => 0
theorem moreI_next (q : Bool) (a b : List UInt8) (h : q = true → a.length < b.length) : moreI (.bool q) (.string (bytesOf a)) < moreI (.bool true) (.string (bytesOf b)) := by
  cases q
  · show 0 < (bytesOf b).size + 1; omega
  · have := h rfl
    show (bytesOf a).size + 1 < (bytesOf b).size + 1
    rw [bytesOf_size, bytesOf_size]
    omega
/-- On the way through one list, as the program goes. -/
def LIv (D : List UInt8) (acc : List Cn) (t : List UInt8) (mo : Bool) : Prop :=
  (mo = true → condsL D = (condsL t).map fun x => (acc ++ x.1, x.2)) ∧ (mo = false → condsL D = some (acc, t))
theorem LIv.start (D : List UInt8) : LIv D [] D true := by
  refine ⟨fun _ => ?_, fun e => (by cases e)⟩
  cases condsL D <;> rfl
theorem LIv.no {D t : List UInt8} {acc : List Cn} (h : LIv D acc t true) (hc : condL t = none) : condsL D = none := by
  rw [h.1 rfl, condsL_none hc]; rfl
theorem LIv.next {D t q : List UInt8} {acc : List Cn} {c : Cn} (h : LIv D acc t true) (hc : condL t = some (c, q)) (hq : q.head? = some 32) : LIv D (acc ++ [c]) q.tail true := by
  refine ⟨fun _ => ?_, fun e => (by cases e)⟩
  rw [h.1 rfl, condsL_next hc hq]
  cases condsL q.tail <;> simp
theorem LIv.last {D t q : List UInt8} {acc : List Cn} {c : Cn} (h : LIv D acc t true) (hc : condL t = some (c, q)) (hq : ¬ q.head? = some 32) : LIv D (acc ++ [c]) q false := by
  refine ⟨fun e => (by cases e), fun _ => ?_⟩
  rw [h.1 rfl, condsL_end hc hq]
  rfl
theorem LIv.full {l t : List UInt8} {acc : List Cn} (h : LIv l.tail acc t true) (ha : acc.length = 4) (h40 : l.head? = some 40) : listL l = none := by
  unfold listL
  rw [if_pos h40, h.1 rfl]
  cases hc : condsL t with
  | none => rfl
  | some x =>
    have := (condsL_len _ t (Nat.lt_succ_self _) _ _ hc).2
    show (if (acc ++ x.1).length ≤ 4 ∧ _ then _ else none) = none
    rw [if_neg]
    rw [List.length_append]
    omega
/-- What the reading of one list comes to. -/
def ListI (l : List UInt8) (B : Nat) (e : Ending) (w' : World) : Prop := match listL l with
  | none => ∃ (v : Value) (r : ByteArray), e = .returned (.tuple #[v, .string r, .bool false])
  | some (cs, q) => ∃ g n c : Nat, e = .returned (.tuple #[.slice (some ⟨g, 0, none⟩) n c, .string (bytesOf q), .bool true]) ∧ OwnG 136 3 ciC w' B (.slice (some ⟨g, 0, none⟩) n c) cs
theorem listI_no {l : List UInt8} (h : listL l = none) (B : Nat) (w' : World) (v : Value) (r : ByteArray) : ListI l B (.returned (.tuple #[v, .string r, .bool false])) w' := by
  unfold ListI
  rw [h]
  exact ⟨v, r, rfl⟩
theorem listI_yes {l t : List UInt8} {acc : List Cn} (h40 : l.head? = some 40) (h : LIv l.tail acc t false) (ha : acc.length ≤ 4) (h41 : t.head? = some 41) (B : Nat) (w' : World) (g n c : Nat) (ho : OwnG 136 3 ciC w' B (.slice (some ⟨g, 0, none⟩) n c) acc) :
    ListI l B (.returned (.tuple #[.slice (some ⟨g, 0, none⟩) n c, .string (bytesOf t.tail), .bool true])) w' := by
  have e : listL l = some (acc, t.tail) := by
    unfold listL
    rw [if_pos h40, h.2 rfl]
    show (if acc.length ≤ 4 ∧ t.head? = some 41 then some (acc, t.tail) else none) = _
    rw [if_pos ⟨ha, h41⟩]
  unfold ListI
  rw [e]
  exact ⟨g, n, c, rfl, ho⟩
theorem listL_not41 {l t : List UInt8} {acc : List Cn} (h40 : l.head? = some 40) (h : LIv l.tail acc t false) (h41 : ¬ t.head? = some 41) : listL l = none := by
  unfold listL
  rw [if_pos h40, h.2 rfl]
  show (if acc.length ≤ 4 ∧ t.head? = some 41 then some (acc, t.tail) else none) = _
  rw [if_neg (fun e => h41 e.2)]
theorem listL_no {l : List UInt8} (h40 : l.head? = some 40) (h : condsL l.tail = none) : listL l = none := by
  unfold listL
  rw [if_pos h40, h]

set_option maxRecDepth 100000 in
set_option maxHeartbeats 8000000 in
theorem cutList_any (l : List UInt8) (w : World) (hl : l.length ≤ 1048576) :
    Calls Tryz.prog 125 #[.string (bytesOf l)] w fun e w' => ListI l w.heap.size e w' ∧ Below w.heap.size w w' := by
  have HO := hide (OwnG.made (tE := 136) (K := 3) (cs := ciC) w w.heap.size (Nat.le_refl _))
  have HB0 := hide ((Below.refl w.heap.size w).alloc (Nat.le_refl _) (Obj.cells #[] 136))
  by_cases h40 : l.head? = some 40
  · have HP := hide (fun W => cutPre_yes h40 W)
    have HC := hide (fun t W (h : t.length ≤ 1048576) => cutCond_any t W h)
    have H40 := hide h40
    obtain ⟨D, hD⟩ : ∃ z, l.tail = z := ⟨_, rfl⟩
    have hDl : D.length ≤ 1048576 := by rw [← hD, List.length_tail]; omega
    have HD := hide hD
    rw [hD] at HP
    clear h40 hD
    go_enter Tryz.func125, Tryz.ntmps125
    go_wp2_with fail
    refine (HP.out _).mono ?_
    rintro e w1 ⟨rfl, hw⟩
    subst hw
    clear HP
    go_wp2
    go_loopw [0, 6, 7] (fun v v6 m wr => ∃ (t : List UInt8) (g n c : Nat) (acc : List Cn) (mo : Bool), v = .string (bytesOf t) ∧ v6 = .slice (some ⟨g, 0, none⟩) n c ∧ m = .bool mo ∧ n ≤ 4 ∧ t.length ≤ 1048576 ∧ Hid (n = acc.length) ∧ Hid (LIv D acc t mo) ∧ Hid (OwnG 136 3 ciC wr w1.heap.size (.slice (some ⟨g, 0, none⟩) n c) acc) ∧ Below w1.heap.size w1 wr) (fun v _ m _ => moreI m v)
    case atStart => exact ⟨D, _, _, _, [], true, rfl, rfl, rfl, by omega, hDl, rfl, LIv.start D, HO, HB0.out⟩
    case round =>
      obtain ⟨t, g, n, c, acc, mo, rfl, rfl, rfl, hn4, htl, HN, HI, HOW, hbe⟩ := hrel
      have HB := hide hbe
      clear hbe HO HB0
      cases mo
      · by_cases h41 : t.head? = some 41
        · have HQ := hide (fun W => cutPre_yes h41 W)
          have HRET := hide (listI_yes H40.out (by rw [HD.out]; exact HI.out) (by rw [← HN.out]; exact hn4) h41 w1.heap.size wr g n c HOW.out)
          clear h41
          go_wp2_with fail
          refine (HQ.out _).mono ?_
          rintro e w2 ⟨rfl, hw⟩
          subst hw
          go_wp2
          go_ret3
          exact ⟨HRET.out, HB.out⟩
        · have HQ := hide (fun W => cutPre_no h41 W)
          have HRET := hide (listI_no (listL_not41 H40.out (by rw [HD.out]; exact HI.out) h41) w1.heap.size wr)
          clear h41
          go_wp2_with fail
          refine (HQ.out _).mono ?_
          rintro e w2 ⟨rfl, hw⟩
          subst hw
          go_wp2
          go_ret3
          exact ⟨HRET.out _ _, HB.out⟩
      · have HQ := hide (HC.out t wr htl)
        go_wp2_with fail
        refine HQ.out.mono ?_
        rintro e w2 ⟨hret, b2⟩
        unfold CondI at hret
        have B2 := hide (HB.out.trans (b2.mono HB.out.size))
        have O2 := hide (HOW.out.next b2)
        clear b2 HQ HB HOW
        cases hc : condL t with
        | none =>
          rw [hc] at hret
          obtain ⟨x, r, rfl⟩ := hret
          have HRET := hide (fun W => listI_no (listL_no H40.out (by rw [HD.out]; exact HI.out.no hc)) w1.heap.size W)
          clear hc
          go_wp2
          go_ret3
          exact ⟨HRET.out _ _ _, B2.out.alloc B2.out.size _⟩
        | some p =>
          obtain ⟨x, q⟩ := p
          rw [hc] at hret
          subst hret
          have hql := condL_len hc
          by_cases h4 : n = 4
          · have HRET := hide (fun W => listI_no (LIv.full (l := l) (by rw [HD.out]; exact HI.out) (by rw [← HN.out]; exact h4) H40.out) w1.heap.size W)
            have h5 : ((n : Int) == 4) = true := by rw [h4]; rfl
            clear hc h4
            go_wp2
            go_ret3
            exact ⟨HRET.out _ _ _, B2.out.alloc B2.out.size _⟩
          · have h5 : ((n : Int) == 4) = false := by apply beq_eq_false_iff_ne.2; omega
            have hn3 : n ≤ 3 := by omega
            have bX := (Below.refl w2.heap.size w2).alloc (Nat.le_refl _) (Obj.cells #[.bool x.no, .int .i64 x.tk, .string x.tg] 136)
            have bY := bX.alloc (by simp) (Obj.cells #[.bool x.no, .int .i64 x.tk, .string x.tg] 136)
            have HO3 := hide (O2.out.next bY)
            have B3 := hide (B2.out.trans (bY.mono B2.out.size))
            have hz3 := B3.out.size
            have hln : acc.length + 1 ≤ 100000000000 := by have := HN.out; omega
            have HNN := hide (show acc.length + 1 = n + 1 by rw [← HN.out])
            by_cases h32 : q.head? = some 32
            · have HQ := hide (fun W => cutPre_yes h32 W)
              have HIN := hide (HI.out.next hc h32)
              have hqt : q.tail.length < t.length := by rw [List.length_tail]; omega
              clear hc h4 bX bY O2 h32
              go_wp2_with (at_builtin; refine wp_append_gen 132 Tryz.underlying132 (.agg #[.bool false, .int .i64 0, .string { data := #[] }]) 32 infoCnI rfl (by decide) (by decide) rfl _ _ rfl w1.heap.size _ acc rfl HO3.out ciC_len _ x rfl (fun i v hv => by match i with | 0 => (cases hv; simp) | 1 => (cases hv; simp) | 2 => (cases hv; simp) | i + 3 => cases hv) (ciC_one x) hln hz3 ?_)
              intro g9 n9 c9 w9 hn9 hO9 hb9 hg9 _
              have O9 := hide hO9
              have B9 := hide (B3.out.trans hb9)
              have HN9 := hide hn9
              have hn95 : n9 ≤ 4 := by have := HN.out; omega
              clear hO9 hb9 hg9 HO3 B3 hn9
              go_wp2_with fail
              refine (HQ.out _).mono ?_
              rintro e w10 ⟨rfl, hw⟩
              subst hw
              go_wp2
              go_roundw
              case rel => exact ⟨q.tail, g9, n9, c9, _, true, rfl, rfl, rfl, hn95, by omega, (by show n9 = _; rw [HN9.out, List.length_append]; rfl), HIN, O9, B9.out⟩
              case measure => exact moreI_next _ _ _ (fun _ => hqt)
            · have HQ := hide (fun W => cutPre_no h32 W)
              have HIN := hide (HI.out.last hc h32)
              clear hc h4 bX bY O2 h32
              go_wp2_with (at_builtin; refine wp_append_gen 132 Tryz.underlying132 (.agg #[.bool false, .int .i64 0, .string { data := #[] }]) 32 infoCnI rfl (by decide) (by decide) rfl _ _ rfl w1.heap.size _ acc rfl HO3.out ciC_len _ x rfl (fun i v hv => by match i with | 0 => (cases hv; simp) | 1 => (cases hv; simp) | 2 => (cases hv; simp) | i + 3 => cases hv) (ciC_one x) hln hz3 ?_)
              intro g9 n9 c9 w9 hn9 hO9 hb9 hg9 _
              have O9 := hide hO9
              have B9 := hide (B3.out.trans hb9)
              have HN9 := hide hn9
              have hn95 : n9 ≤ 4 := by have := HN.out; omega
              clear hO9 hb9 hg9 HO3 B3 hn9
              go_wp2_with fail
              refine (HQ.out _).mono ?_
              rintro e w10 ⟨rfl, hw⟩
              subst hw
              go_wp2
              go_roundw
              case rel => exact ⟨q, g9, n9, c9, _, false, rfl, rfl, rfl, hn95, by omega, (by show n9 = _; rw [HN9.out, List.length_append]; rfl), HIN, O9, B9.out⟩
              case measure => exact moreI_next _ _ _ (fun e => (by cases e))
  · have HP := hide (fun W => cutPre_no h40 W)
    have HRET := hide (fun W => listI_no (l := l) (by unfold listL; rw [if_neg h40]) w.heap.size W)
    obtain ⟨r2, ok2, HQ0⟩ := cutPre_ex (bytesOf l) 41
    have HQ := hide HQ0
    clear HQ0 h40
    go_enter Tryz.func125, Tryz.ntmps125
    go_wp2_with fail
    refine (HP.out _).mono ?_
    rintro e w1 ⟨rfl, hw⟩
    subst hw
    clear HP
    go_wp2
    go_loopw [0, 7] (fun v m wr => v = .string (bytesOf l) ∧ m = .bool false ∧ wr = w1.alloc (Obj.cells #[] 136)) (fun _ _ _ => 0)
    case atStart => exact ⟨rfl, rfl, rfl⟩
    case round =>
      obtain ⟨rfl, rfl, hw⟩ := hrel
      subst hw
      go_wp2_with fail
      refine (HQ.out _).mono ?_
      rintro e w2 ⟨rfl, hw⟩
      subst hw
      go_wp2
      go_ret3
      exact ⟨HRET.out _ _ _, HB0.out⟩
end Go.Proofs.YtfhcniifennfbaaGreatDoor
namespace Go.Proofs.YtfhcniifennfbaaGreatDoor
open Go.RowKit M
set_option linter.unusedVariables false

theorem infoSlI : (Tryz.prog.info? 132).map (fun i => (i.zero, i.size, i.bytes)) = some (some (.slice none 0 0), 1, 24) := by kernel_rfl
theorem trimL32 (l : List UInt8) (w : World) :
    Calls Tryz.prog 126 #[.string (bytesOf l), .string ⟨#[32]⟩] w fun e w' => e = .returned (.string (bytesOf (blk l))) ∧ w' = w :=
  Tryz.strings_TrimLeft_one (bytesOf l) 32 (by decide) w
/-- On the way through several lists, as the program goes. -/
def PIv (l : List UInt8) (ls : List (List Cn)) (t : List UInt8) (mo : Bool) : Prop :=
  (mo = true → listsL l = (listsL t).map (ls ++ ·)) ∧ (mo = false → listsL l = some ls)
theorem PIv.start (l : List UInt8) : PIv l [] l true := by
  refine ⟨fun _ => ?_, fun e => (by cases e)⟩
  cases listsL l <;> rfl
theorem PIv.no {l t : List UInt8} {ls : List (List Cn)} (h : PIv l ls t true) (hc : listL t = none) : ifL l = none := by
  unfold ifL
  rw [h.1 rfl, listsL_none hc]
  rfl
theorem PIv.next {l t q : List UInt8} {ls : List (List Cn)} {cs : List Cn} (h : PIv l ls t true) (hc : listL t = some (cs, q)) (hq : ¬ q = []) : PIv l (ls ++ [cs]) (blk q) true := by
  refine ⟨fun _ => ?_, fun e => (by cases e)⟩
  rw [h.1 rfl, listsL_next hc hq]
  cases listsL (blk q) <;> simp
theorem PIv.last {l t t' : List UInt8} {ls : List (List Cn)} {cs : List Cn} (h : PIv l ls t true) (hc : listL t = some (cs, [])) : PIv l (ls ++ [cs]) t' false := by
  refine ⟨fun e => (by cases e), fun _ => ?_⟩
  rw [h.1 rfl, listsL_end hc]
  rfl
theorem PIv.full {l t : List UInt8} {ls : List (List Cn)} (h : PIv l ls t true) (ha : ls.length = 4) : ifL l = none := by
  unfold ifL
  rw [h.1 rfl]
  cases hc : listsL t with
  | none => rfl
  | some x =>
    have := (listsL_ok _ t (Nat.lt_succ_self _) _ hc).1
    show (if (ls ++ x).length ≤ 4 then some (ls ++ x) else none) = none
    rw [if_neg]
    rw [List.length_append]
    omega
theorem PIv.done {l t : List UInt8} {ls : List (List Cn)} (h : PIv l ls t false) (ha : ls.length ≤ 4) : ifL l = some ls := by
  unfold ifL
  rw [h.2 rfl]
  show (if ls.length ≤ 4 then some ls else none) = some ls
  rw [if_pos ha]
/-- What is answered. -/
def IfI (l : List UInt8) (B : Nat) (e : Ending) (w' : World) : Prop :=
  ∃ r : Value, e = .returned (.tuple #[r, .bool (ifL l).isSome]) ∧ Own w' r (.l (((ifL l).getD []).map dCs)) (IvG B w'.heap.size)
theorem ifI_no {l : List UInt8} (h : ifL l = none) (B : Nat) (W : World) (hB : B ≤ W.heap.size) : IfI l B (.returned (.tuple #[.slice (some ⟨W.heap.size, 0, none⟩) 0 0, .bool false])) (W.alloc (Obj.cells #[] 132)) :=
  ⟨_, by rw [h]; rfl, by rw [h]; exact (RowsO.made 132 W B hB).done⟩
theorem emptyB (l : List UInt8) : (bytesOf l).toList.isEmpty = decide (l = []) := by
  rw [ByteArray.toList_eq]
  show l.toArray.toList.isEmpty = decide (l = [])
  cases l <;> simp

set_option maxRecDepth 100000 in
set_option maxHeartbeats 16000000 in
theorem parseIf_any (l : List UInt8) (w : World) (hl : l.length ≤ 1048576) :
    Calls Tryz.prog 95 #[.string (bytesOf l)] w fun e w' => IfI l w.heap.size e w' ∧ Below w.heap.size w w' := by
  have HO := hide (RowsO.made 132 w w.heap.size (Nat.le_refl _))
  have HB0 := hide ((Below.refl w.heap.size w).alloc (Nat.le_refl _) (Obj.cells #[] 132))
  have HC := hide (fun t W (h : t.length ≤ 1048576) => cutList_any t W h)
  have HTR := hide (fun t W => trimL32 t W)
  go_enter Tryz.func95, Tryz.ntmps95
  go_wp2
  go_loopw [0, 4, 5] (fun v v4 m wr => ∃ (t : List UInt8) (g n c H : Nat) (ss : List Sl) (ls : List (List Cn)) (mo : Bool), v = .string (bytesOf t) ∧ v4 = .slice (some ⟨g, 0, none⟩) n c ∧ m = .bool mo ∧ n ≤ 4 ∧ t.length ≤ 1048576 ∧ Hid (n = ls.length) ∧ Hid (PIv l ls t mo) ∧ Hid (RowsO 132 wr w.heap.size g n c H ss ls) ∧ Below w.heap.size w wr) (fun v _ m _ => moreI m v)
  case atStart => exact ⟨l, _, _, _, _, [], [], true, rfl, rfl, rfl, by omega, hl, rfl, PIv.start l, HO, HB0.out⟩
  case round =>
    obtain ⟨t, g, n, c, H, ss, ls, mo, rfl, rfl, rfl, hn4, htl, HN, HI, HOW, hbe⟩ := hrel
    have HB := hide hbe
    clear hbe HO HB0
    cases mo
    · have HRET := hide (show IfI l w.heap.size (.returned (.tuple #[.slice (some ⟨g, 0, none⟩) n c, .bool true])) wr from ⟨_, by rw [HI.out.done (by rw [← HN.out]; exact hn4)]; rfl, by rw [HI.out.done (by rw [← HN.out]; exact hn4)]; exact HOW.out.done⟩)
      go_wp2
      go_ret2
      exact ⟨HRET.out, HB.out⟩
    · have HQ := hide (HC.out t wr htl)
      go_wp2_with fail
      refine HQ.out.mono ?_
      rintro e w2 ⟨hret, b2⟩
      unfold ListI at hret
      have B2 := hide (HB.out.trans (b2.mono HB.out.size))
      have O2 := hide (HOW.out.next b2)
      have hz2 := B2.out.size
      have HTOP := hide HOW.out.top
      have hb2 := b2.size
      clear b2 HQ HB HOW
      cases hc : listL t with
      | none =>
        rw [hc] at hret
        obtain ⟨v, r, rfl⟩ := hret
        have HRET := hide (ifI_no (HI.out.no hc) w.heap.size w2 hz2)
        clear hc
        go_wp2
        go_ret2
        exact ⟨HRET.out, B2.out.alloc B2.out.size _⟩
      | some p =>
        obtain ⟨cs, q⟩ := p
        rw [hc] at hret
        obtain ⟨g2, n2, c3, rfl, ho⟩ := hret
        have hql := listL_len hc
        by_cases h4 : n = 4
        · have HRET := hide (ifI_no (HI.out.full (by rw [← HN.out]; exact h4)) w.heap.size w2 hz2)
          have h5 : ((n : Int) == 4) = true := by rw [h4]; rfl
          clear hc h4
          go_wp2
          go_ret2
          exact ⟨HRET.out, B2.out.alloc B2.out.size _⟩
        · have h5 : ((n : Int) == 4) = false := by apply beq_eq_false_iff_ne.2; omega
          have hn3 : n ≤ 3 := by omega
          have bY := (Below.refl w2.heap.size w2).alloc (Nat.le_refl _) (Obj.cells #[.slice (some ⟨g2, 0, none⟩) n2 c3] 132)
          have hr2 := ho.row ciC_len
          have HNL := hide ((own_of_conds (ho.next bY)).wide (T := IvG wr.heap.size w2.heap.size) (fun y hy => by subst hy; exact ⟨hr2.2.2.2.1, hr2.2.2.2.2.1⟩))
          have P3 := hide (O2.out.next bY)
          have HO3 := hide (P3.out.own)
          have B3 := hide (B2.out.trans (bY.mono B2.out.size))
          have hz3 := bY.size
          have hz4 := B3.out.size
          have hln : ss.length + 1 ≤ 100000000000 := by have h1 := P3.out.len; have h2 := HN.out; omega
          have HTT := hide (fun W => trimL32 q W)
          have hE0 := emptyB q
          have hbq := blk_len q
          have HIN := hide (fun (hq : ¬ q = []) => HI.out.next hc hq)
          have HIL := hide (fun (hq : q = []) => HI.out.last (t' := blk q) (by rw [← hq]; exact hc))
          clear hc h4 bY O2 ho hr2
          go_wp2_with (at_builtin; refine wp_append_gen 95 Tryz.underlying95 (.slice none 0 0) 24 infoSlI rfl (by decide) (by decide) rfl _ _ rfl w.heap.size _ ss rfl HO3.out ciS_len _ (⟨g2, n2, c3⟩ : Sl) rfl (fun i v hv => by match i with | 0 => (cases hv; simp [Sl.v]) | i + 1 => cases hv) (ciS_one _) hln hz4 ?_)
          intro g9 n9 c9 w9 hn9 hO9 hb9 hg9 hat
          have B9 := hide (B3.out.trans hb9)
          have HNX := hide (P3.out.snoc hO9 hg9 (by rcases hat with e2 | e2; exact .inl (Option.some.inj e2).symm; exact .inr (by rw [e2]; simp)) wr.heap.size w2.heap.size HNL.out HTOP.out hz3)
          have HN9 := hide (show n9 = (ls ++ [cs]).length from HNX.out.num.1)
          have hn95 : n9 ≤ 4 := by rw [HN9.out, List.length_append, ← HN.out]; show n + 1 ≤ 4; omega
          clear hO9 hb9 hg9 HO3 B3 hn9 hat P3 HNL HTOP hln
          by_cases hq : q = []
          · have HI9 := hide (HIL.out hq)
            rw [decide_eq_true hq] at hE0
            clear hq
            go_wp2_with fail
            refine (HTT.out _).mono ?_
            rintro e w10 ⟨rfl, hw⟩
            subst hw
            go_wp2
            go_roundw
            case rel => exact ⟨blk q, g9, n9, c9, w10.heap.size, _, _, false, rfl, rfl, rfl, hn95, by omega, HN9, HI9, HNX, B9.out⟩
            case measure => exact moreI_next _ _ _ (fun e => (by cases e))
          · have HI9 := hide (HIN.out hq)
            rw [decide_eq_false hq] at hE0
            clear hq
            go_wp2_with fail
            refine (HTT.out _).mono ?_
            rintro e w10 ⟨rfl, hw⟩
            subst hw
            go_wp2
            go_roundw
            case rel => exact ⟨blk q, g9, n9, c9, w10.heap.size, _, _, true, rfl, rfl, rfl, hn95, by omega, HN9, HI9, HNX, B9.out⟩
            case measure => exact moreI_next _ _ _ (fun _ => by omega)
end Go.Proofs.YtfhcniifennfbaaGreatDoor
namespace Go.Proofs.YtfhcniifennfbaaGreatDoor
open Go.RowKit M
set_option linter.unusedVariables false

theorem bytes_back (s : ByteArray) : bytesOf s.data.toList = s := ByteArray.ext (by simp [bytesOf])
/-- What is read, and whether. -/
def ifLs (s : ByteArray) : List (List Cn) := (ifL s.data.toList).getD []
theorem specParseIf_gen (s : ByteArray) (W : World) (hs : s.size ≤ 67108864) :
    Calls Tryz.prog 51 #[.string s] W fun e w' => (∃ r : Value, e = .returned (.tuple #[r, .bool (ifL s.data.toList).isSome]) ∧ View w' w'.heap.size r (.l ((ifLs s).map dCs))) ∧ Below W.heap.size W w' := by
  refine (specParseIf_any s W hs).mono ?_
  rintro e w' ⟨⟨r, rfl, ho⟩, hb⟩
  exact ⟨⟨r, rfl, ho.vw (Nat.le_refl _)⟩, hb⟩
theorem parseIf_gen (s : ByteArray) (W : World) (hs : s.size ≤ 1048576) :
    Calls Tryz.prog 95 #[.string s] W fun e w' => (∃ r : Value, e = .returned (.tuple #[r, .bool (ifL s.data.toList).isSome]) ∧ Own w' r (.l ((ifLs s).map dCs)) (IvG W.heap.size w'.heap.size)) ∧ Below W.heap.size W w' := by
  have h := parseIf_any s.data.toList W (by rw [Array.length_toList]; exact hs)
  rw [bytes_back] at h
  exact h
theorem ifLs_ok (s : ByteArray) : (ifLs s).length ≤ 4 ∧ ∀ cs ∈ ifLs s, cs.length ≤ 4 := by
  unfold ifLs
  cases h : ifL s.data.toList with
  | none => exact ⟨by simp, fun cs hcs => by cases hcs⟩
  | some ls => exact ⟨(ifL_ok h).2.1, fun cs hcs => ((ifL_ok h).2.2 cs hcs).2.1⟩
theorem cnt_dCn (l : List Cn) : cntRs (l.map dCn) = 3 * l.length := cntRs_map dCn 3 (fun _ => by simp [dCn, cntR, cntF]) l
theorem cnt_dCs (l : List (List Cn)) (n : Nat) (h : ∀ cs ∈ l, cs.length ≤ n) : cntRs (l.map dCs) ≤ 3 * n * l.length := by
  induction l with
  | nil => simp [cntRs]
  | cons x r ih =>
    rw [List.map_cons, cntRs_cons, List.length_cons, Nat.mul_add]
    have h1 := ih (fun cs hcs => h cs (List.mem_cons_of_mem _ hcs))
    have h2 : cntR (dCs x) = 3 * x.length := by simp [dCs, cntR, cntF, cnt_dCn]
    have h3 := h x (List.mem_cons_self ..)
    have h4 : 3 * x.length ≤ 3 * n := Nat.mul_le_mul_left 3 h3
    omega
theorem ifLs_cnt (s : ByteArray) : cntRs ((ifLs s).map dCs) ≤ 12582912 := by
  have h := cnt_dCs (ifLs s) 4 (ifLs_ok s).2
  have := (ifLs_ok s).1
  omega
end Go.Proofs.YtfhcniifennfbaaGreatDoor
namespace Go.Proofs.YtfhcniifennfbaaGreatDoor
open Go.RowKit M

def strLen : Value → Nat | .string t => t.size | _ => 0

set_option maxHeartbeats 400000 in
theorem l1Blank_any (c : UInt8) (w : World) :
    Calls Tryz.prog 172 #[.int .u8 c.toNat] w fun e w' => e = .returned (.bool (bl c)) ∧ w' = w := by
  go_enter Tryz.func172, Tryz.ntmps172
  go_wp2
  all_goals
    go_ret
    refine ⟨ret_bool ?_, rfl⟩
    go_light
    unfold bl isB
    simp_all

set_option maxHeartbeats 1000000 in
theorem specTrim_any (s : ByteArray) (w : World) (hs : s.size ≤ maxLen) :
    Calls Tryz.prog 145 #[.string s] w fun e w' => (∃ t : ByteArray, e = .returned (.string t) ∧ t.data.toList = trimL s.data.toList) ∧ w' = w := by
  unfold maxLen at hs
  go_enter Tryz.func145, Tryz.ntmps145
  go_wp2
  go_loop [0] (fun v => ∃ t : ByteArray, v = .string t ∧ t.size ≤ s.size ∧ trimL t.data.toList = trimL s.data.toList) (fun v => strLen v)
  case atStart => exact ⟨s, rfl, Nat.le_refl _, rfl⟩
  case round =>
    obtain ⟨t, rfl, ht, hn⟩ := hrel
    have HN : Hid (trimL t.data.toList = trimL s.data.toList) := hn; clear hn
    by_cases h0 : 0 < t.size
    · cases hb : bl t[0]
      · go_wp2_with (go_at_call 172; refine (l1Blank_any _ _).mono ?_; rintro e w' ⟨rfl, rfl⟩; rw [hb])
        go_loop [0] (fun v => ∃ u : ByteArray, v = .string u ∧ u.size ≤ s.size ∧ trimL u.data.toList = trimL s.data.toList ∧ ∀ h : 0 < u.size, bl u[0] = false) (fun v => strLen v)
        case atStart => exact ⟨t, rfl, ht, HN.out, fun _ => hb⟩
        case round =>
          clear hb
          obtain ⟨u, rfl, hu, hn, hf⟩ := hrel
          have HU : Hid (trimL u.data.toList = trimL s.data.toList) := hn; clear hn
          have HF : Hid (∀ h : 0 < u.size, bl u[0] = false) := hf; clear hf
          by_cases h1 : 0 < u.size
          · cases hb1 : bl u[u.size - 1]
            · go_wp2_with (go_at_call 172; refine (l1Blank_any _ _).mono ?_; rintro e w' ⟨rfl, rfl⟩; rw [hb1])
              go_ret
              exact ⟨⟨u, rfl, step_done u _ h1 (HF.out h1) hb1 HU.out⟩, rfl⟩
            · go_wp2_with (go_at_call 172; refine (l1Blank_any _ _).mono ?_; rintro e w' ⟨rfl, rfl⟩; rw [hb1])
              go_round
              case rel => exact ⟨_, rfl, by rw [size_extract _ _ _ (by omega)]; omega, step_back u _ h1 hb1 HU.out, step_back_head u h1 (HF.out h1)⟩
              case measure => simp only [strLen]; rw [size_extract _ _ _ (by omega)]; omega
          · go_wp2
            go_ret
            exact ⟨⟨u, rfl, step_none u _ h1 HU.out⟩, rfl⟩
      · go_wp2_with (go_at_call 172; refine (l1Blank_any _ _).mono ?_; rintro e w' ⟨rfl, rfl⟩; rw [hb])
        go_round
        case rel => exact ⟨_, rfl, by rw [size_extract _ _ _ (Nat.le_refl _)]; omega, step_front t _ h0 hb HN.out⟩
        case measure => simp only [strLen]; rw [size_extract _ _ _ (Nat.le_refl _)]; omega
    · go_wp2
      go_loop [0] (fun v => v = .string t) (fun v => strLen v)
      case atStart => rfl
      case round =>
        subst hrel
        go_wp2
        go_ret
        exact ⟨⟨t, rfl, step_none t _ h0 HN.out⟩, rfl⟩
end Go.Proofs.YtfhcniifennfbaaGreatDoor
namespace Go.Proofs.YtfhcniifennfbaaGreatDoor
open Go.RowKit
set_option linter.unusedVariables false

def strCells (ss : List ByteArray) : List Value := ss.map Value.string
theorem strCells_length (ss : List ByteArray) : (strCells ss).length = ss.length := by simp [strCells]
theorem strCells_append (ss tt : List ByteArray) : strCells (ss ++ tt) = strCells ss ++ strCells tt := by simp [strCells]

/-- A row that the call owns stays where only new memory is laid. -/
theorem owns_below {B : Nat} {e : TypeId} {v : Value} {n : Nat} {xs : List Value} {w w' : World} (h : w.ownsRow B e 1 v n xs) (hb : Below w.heap.size w w') : w'.ownsRow B e 1 v n xs :=
  h.kept (row := none) ⟨hb.os, hb.tape, hb.output, hb.size, fun k hk _ => hb.block k hk⟩ (Classical.em _)

/-- 'l = append(l, s)' on a row of texts that the call owns. -/
theorem wp_append_str {w : World} {ops : Array Oper} {rest : List Oper} {o : Oper} {a : Act} {Q : Exit → Act → World → Prop} (hgd : o.guard = none) (s x : Operand)
    (ho : o.op = .call { callee := .builtin .append, args := #[s, x], argTypes := #[32, 32] })
    (B : Nat) (v : Value) (n : Nat) (l : List ByteArray) (hs : a.eval s = v) (hown : w.ownsRow B 9 1 v n (strCells l))
    (ad : Addr) (c : ByteArray) (hx : a.eval x = .slice (some ad) 1 1) (hcell : w.cell? ad = some (.string c)) (hlen : n + 1 ≤ 1099511627776) (hB : B ≤ w.heap.size)
    (h : ∀ g cap w', w'.ownsRow B 9 1 (.slice (some ⟨g, 0, none⟩) (n + 1) cap) (n + 1) (strCells (l ++ [c])) → Below B w w' → wpList Tryz.prog ops Q rest (a.put o.dst (.slice (some ⟨g, 0, none⟩) (n + 1) cap)) w') : wpList Tryz.prog ops Q (o :: rest) a w := by
  obtain ⟨i0, hi, hz0, hz1, hz2⟩ := info_parts info_str
  refine wpList_append_own w hgd s x 32 ho B 9 i0 (.string ByteArray.empty) 1 16 Tryz.underlying32 hi hz0 hz1 hz2 rfl (by decide) v n _ hs hown ad 1 1 [.string c] hx rfl ?_ ?_ ?_ ?_ hB ?_
  · intro j u hj
    match j, hj with
    | 0, hj =>
      simp at hj; subst hj
      have : ad.add 0 = ad := by unfold Addr.add; split <;> simp_all
      rw [this]; exact hcell
  · intro u hu; simp at hu; subst hu; rfl
  · unfold maxLen; omega
  · omega
  · intro v' w' ho' hg _
    obtain ⟨g, cap, rfl⟩ : ∃ g cap, v' = .slice (some ⟨g, 0, none⟩) (n + 1) cap := by
      rcases ho'.2 with ⟨_, h0⟩ | ⟨g, cap, cur, hv, _⟩
      · omega
      · exact ⟨g, cap, hv⟩
    refine h g cap w' ?_ (below_grown hown hB hg)
    rw [strCells_append]
    exact ho'

/-- A new row of texts, in a block from B on, none of them frozen. -/
def OwnS (w : World) (B : Nat) (v : Value) (ns : List ByteArray) : Prop :=
  ∃ g cap, v = .slice (some ⟨g, 0, none⟩) ns.length cap ∧ ns.length ≤ cap ∧ cap ≤ maxLen ∧ B ≤ g ∧ g < w.heap.size ∧ ∀ j (hj : j < ns.length), w.cell? ⟨g, j, none⟩ = some (.string ns[j]) ∧ w.frozen? ⟨g, j, none⟩ = false

theorem OwnS.of {w : World} {B g n cap : Nat} {ns : List ByteArray} (h : w.ownsRow B 9 1 (.slice (some ⟨g, 0, none⟩) n cap) n (strCells ns)) (hn : ns.length = n) : OwnS w B (.slice (some ⟨g, 0, none⟩) n cap) ns := by
  subst hn
  have hlt := h.lt g rfl
  have hcap : ns.length ≤ cap ∧ cap ≤ maxLen := by
    rcases h.2 with ⟨e, _⟩ | ⟨g', cap', cur, hv, _, _, h1, h2, _⟩
    · cases e
    · cases hv; exact ⟨h1, h2⟩
  refine ⟨g, cap, rfl, hcap.1, hcap.2, hlt.1, hlt.2, fun j hj => ⟨?_, h.frozenAt j⟩⟩
  rw [h.cellAt j (by omega)]
  simp [strCells, List.getElem?_eq_getElem hj]

/-- .. cut at its length. -/
theorem OwnS.clip {w : World} {B g n cap : Nat} {ns : List ByteArray} (h : OwnS w B (.slice (some ⟨g, 0, none⟩) n cap) ns) : OwnS w B (.slice (some ⟨g, 0, none⟩) n n) ns := by
  obtain ⟨g', cap', hv, h1, h2, h3, h4, h5⟩ := h
  cases hv
  exact ⟨g, ns.length, rfl, Nat.le_refl _, Nat.le_trans h1 h2, h3, h4, h5⟩

theorem OwnS.strs {w : World} {B C : Nat} {a : Option Addr} {n cap : Nat} {ns : List ByteArray} (h : OwnS w B (.slice a n cap) ns) (hC : w.heap.size ≤ C) : Strs w C a ns := fun h0 => by
  obtain ⟨g, cap', hv, _, _, _, h4, h5⟩ := h
  cases hv
  exact ⟨g, 0, rfl, by omega, fun j hj => by rw [Nat.zero_add]; exact (h5 j hj).1⟩

theorem OwnS.below {w w' : World} {B : Nat} {v : Value} {ns : List ByteArray} (h : OwnS w B v ns) (hb : Below w.heap.size w w') : OwnS w' B v ns := by
  obtain ⟨g, cap, hv, h1, h2, h3, h4, h5⟩ := h
  refine ⟨g, cap, hv, h1, h2, h3, Nat.lt_of_lt_of_le h4 hb.size, fun j hj => ?_⟩
  rw [hb.cell (p := ⟨g, j, none⟩) h4, hb.frozen (p := ⟨g, j, none⟩) h4]
  exact h5 j hj

theorem OwnS.made (w : World) (B : Nat) (hB : B ≤ w.heap.size) (cs : Array Value) (T : TypeId) : OwnS (w.alloc (.cells cs T)) B (.slice (some ⟨w.heap.size, 0, none⟩) 0 0) [] :=
  ⟨w.heap.size, 0, rfl, Nat.le_refl _, Nat.zero_le _, hB, by simp, fun j hj => absurd hj (Nat.not_lt_zero _)⟩
end Go.Proofs.YtfhcniifennfbaaGreatDoor
namespace Go.Proofs.YtfhcniifennfbaaGreatDoor
open Go.RowKit M
set_option linter.unusedVariables false

/-- How far a text is cut. -/
def SpqAt (l : List UInt8) (k fr : Nat) (b : Bool) (done : List (List UInt8)) : Prop :=
  done.length ≤ k ∧ fr ≤ k ∧ ((k ≤ l.length ∧ spq false l = done ++ addH ((l.drop fr).take (k - fr)) (spq b (l.drop k))) ∨ (k = l.length + 1 ∧ done = spq false l))
theorem SpqAt.start (l : List UInt8) : SpqAt l 0 0 false [] := ⟨Nat.le_refl _, Nat.le_refl _, .inl ⟨Nat.zero_le _, by simp [addH_nil _ (spq_ne _ _)]⟩⟩
theorem take_nextT (l : List UInt8) (fr k : Nat) (hf : fr ≤ k) (hk : k < l.length) : (l.drop fr).take (k + 1 - fr) = (l.drop fr).take (k - fr) ++ [l[k]] := by
  have h1 : k - fr < (l.drop fr).length := by rw [List.length_drop]; omega
  rw [show k + 1 - fr = (k - fr) + 1 by omega, List.take_succ_eq_append_getElem h1, List.getElem_drop]
  congr 3
  omega
theorem SpqAt.skip {l : List UInt8} {k fr : Nat} {b : Bool} {done : List (List UInt8)} (h : SpqAt l k fr b done) (hk : k < l.length) (hc : ¬ (l[k] = 44 ∧ b = false)) : SpqAt l (k + 1) fr (if l[k] = 34 then !b else b) done := by
  obtain ⟨h1, h2, h3 | h3⟩ := h
  · refine ⟨by omega, by omega, .inl ⟨by omega, ?_⟩⟩
    rw [h3.2, take_nextT l fr k h2 hk]
    conv => lhs; rw [List.drop_eq_getElem_cons hk, spq, if_neg hc, addH_add]
  · exact absurd hk (by omega)
theorem SpqAt.cut {l : List UInt8} {k fr : Nat} {b : Bool} {done : List (List UInt8)} (h : SpqAt l k fr b done) (hk : k < l.length) (hc : l[k] = 44) (hb : b = false) : SpqAt l (k + 1) (k + 1) b (done ++ [(l.drop fr).take (k - fr)]) := by
  obtain ⟨h1, h2, h3 | h3⟩ := h
  · refine ⟨by simp; omega, Nat.le_refl _, .inl ⟨by omega, ?_⟩⟩
    rw [h3.2]
    conv => lhs; rw [List.drop_eq_getElem_cons hk, spq, if_pos ⟨hc, hb⟩]
    subst hb
    rw [Nat.sub_self, List.take_zero, addH_nil _ (spq_ne _ _)]
    simp [addH]
  · exact absurd hk (by omega)
theorem SpqAt.last {l : List UInt8} {k fr : Nat} {b : Bool} {done : List (List UInt8)} (h : SpqAt l k fr b done) (hk : k = l.length) : SpqAt l (k + 1) (k + 1) b (done ++ [(l.drop fr).take (k - fr)]) := by
  obtain ⟨h1, h2, h3 | h3⟩ := h
  · refine ⟨by simp; omega, Nat.le_refl _, .inr ⟨by omega, ?_⟩⟩
    rw [h3.2, List.drop_of_length_le (show l.length ≤ k by omega), spq]
    simp [addH]
  · exact absurd hk (by omega)
theorem extractT (s : ByteArray) (fr k : Nat) : (s.extract fr k).data.toList = (s.data.toList.drop fr).take (k - fr) := by
  have h1 : (s.extract fr k).data = s.data.extract fr k := by simp
  rw [h1, Array.toList_extract]
def tgS (p : List UInt8) : ByteArray := bytesOf (trimL p)
theorem bytes_is (s : ByteArray) (l : List UInt8) (h : s.data.toList = l) : s = bytesOf l := by
  apply ByteArray.ext; apply Array.ext'; rw [h]; rfl

set_option maxHeartbeats 2000000 in
theorem l9Split_any (s : ByteArray) (w : World) (hs : s.size ≤ 1048576) :
    Calls Tryz.prog 121 #[.string s] w fun e w' => (∃ g cap, e = .returned (.slice (some ⟨g, 0, none⟩) (spq false s.data.toList).length cap) ∧ w'.ownsRow w.heap.size 9 1 (.slice (some ⟨g, 0, none⟩) (spq false s.data.toList).length cap) (spq false s.data.toList).length (strCells ((spq false s.data.toList).map tgS))) ∧ Below w.heap.size w w' := by
  have EL := hide (show s.data.toList.length = s.size from Array.length_toList)
  go_enter Tryz.func121, Tryz.ntmps121
  go_wp2
  go_loopw [3, 4, 5, 6] (fun v f b i wr => ∃ (k fr : Nat) (q : Bool) (done : List (List UInt8)) (g cap : Nat), i = .int .i64 k ∧ f = .int .i64 fr ∧ b = .bool q ∧ v = .slice (some ⟨g, 0, none⟩) done.length cap ∧ k ≤ s.size + 1 ∧ SpqAt s.data.toList k fr q done ∧ wr.ownsRow w.heap.size 9 1 (.slice (some ⟨g, 0, none⟩) done.length cap) done.length (strCells (done.map tgS)) ∧ Below w.heap.size w wr) (fun _ _ _ i _ => s.size + 1 - (intOf i).toNat)
  case atStart => exact ⟨0, 0, false, [], w.heap.size, 0, rfl, rfl, rfl, rfl, Nat.zero_le _, SpqAt.start _, World.ownsRow_made w #[] 0 (Nat.le_refl _) (by decide) rfl, (Below.refl _ _).alloc (Nat.le_refl _) _⟩
  case round =>
    obtain ⟨k, fr, q, done, g, cap, rfl, rfl, rfl, rfl, hk1, hC, hown, hbe⟩ := hrel
    have HC := hide hC
    have hdl : done.length ≤ k := hC.1
    have hfk : fr ≤ k := hC.2.1
    clear hC
    by_cases hout : k ≤ s.size
    · have HE : Hid ((s.extract fr k).data.toList = (s.data.toList.drop fr).take (k - fr)) := extractT s fr k
      have HT := hide (fun W : World => specTrim_any (s.extract fr k) W (by rw [size_extract s fr k hout]; unfold maxLen; omega))
      by_cases hlt : k < s.size
      · have hne : ((k : Int) == s.size) = false := by
          apply beq_eq_false_iff_ne.2; omega
        by_cases hc : s[k] = 44
        · have b44 : ((s[k].toNat : Int) == 44) = true := by rw [hc]; rfl
          cases q
          · have HN := hide (HC.out.cut (by rw [EL.out]; exact hlt) hc rfl)
            clear hc
            go_wp2_with fail
            refine (HT.out _).mono ?_
            rintro e w1 ⟨⟨t, rfl, ht⟩, hw⟩
            obtain rfl := hw.symm
            have HTt := hide (bytes_is t _ (ht.trans (congrArg trimL HE.out)))
            clear ht
            go_wp2_with (at_builtin; refine wp_append_str rfl _ _ rfl w.heap.size _ done.length _ rfl (hown.alloc _) _ t rfl ?c1 ?c2 ?c3 ?_)
            case c1 => simp
            case c2 => omega
            case c3 => have := hbe.size; simp; omega
            intro g1 cap1 w1 ho1 hb1
            rw [HTt.out] at ho1
            go_wp2
            go_roundw
            case rel => exact ⟨k + 1, k + 1, false, done ++ [(s.data.toList.drop fr).take (k - fr)], g1, cap1, by go_num, by go_num, rfl, by rw [List.length_append]; rfl, by omega, HN.out, by rw [List.length_append, List.map_append]; exact ho1, (hbe.alloc hbe.size _).trans hb1⟩
            case measure => simp [intOf]; omega
          · have b34 : ((s[k].toNat : Int) == 34) = false := by rw [hc]; rfl
            have HN := hide (HC.out.skip (by rw [EL.out]; exact hlt) (by simp))
            have HQ := hide (show (if s.data.toList[k]'(by rw [EL.out]; exact hlt) = 34 then !true else true) = true by rw [if_neg]; show ¬ s[k] = 34; rw [hc]; decide)
            rw [HQ.out] at HN
            clear hc HQ
            go_wp2
            go_roundw
            case rel => exact ⟨k + 1, fr, true, done, g, cap, by go_num, rfl, rfl, rfl, by omega, HN.out, hown, hbe⟩
            case measure => simp [intOf]; omega
        · have b44 : ((s[k].toNat : Int) == 44) = false := u8ne (n := 44) (by decide) hc
          have HN := hide (HC.out.skip (by rw [EL.out]; exact hlt) (fun e => hc e.1))
          by_cases h34 : s[k] = 34
          · have b34 : ((s[k].toNat : Int) == 34) = true := by rw [h34]; rfl
            have HQ := hide (show (if s.data.toList[k]'(by rw [EL.out]; exact hlt) = 34 then !q else q) = !q by rw [if_pos]; exact h34)
            rw [HQ.out] at HN
            clear hc h34 HQ
            go_wp2
            go_roundw
            case rel => exact ⟨k + 1, fr, !q, done, g, cap, by go_num, rfl, rfl, rfl, by omega, HN.out, hown, hbe⟩
            case measure => simp [intOf]; omega
          · have b34 : ((s[k].toNat : Int) == 34) = false := u8ne (n := 34) (by decide) h34
            have HQ := hide (show (if s.data.toList[k]'(by rw [EL.out]; exact hlt) = 34 then !q else q) = q by rw [if_neg]; exact h34)
            rw [HQ.out] at HN
            clear hc h34 HQ
            go_wp2
            go_roundw
            case rel => exact ⟨k + 1, fr, q, done, g, cap, by go_num, rfl, rfl, rfl, by omega, HN.out, hown, hbe⟩
            case measure => simp [intOf]; omega
      · have hks : k = s.size := by omega
        have hne : ((k : Int) == s.size) = true := by rw [hks]; simp
        have HN := hide (HC.out.last (by rw [EL.out]; exact hks))
        clear hks
        go_wp2_with fail
        refine (HT.out _).mono ?_
        rintro e w1 ⟨⟨t, rfl, ht⟩, hw⟩
        obtain rfl := hw.symm
        have HTt := hide (bytes_is t _ (ht.trans (congrArg trimL HE.out)))
        clear ht
        go_wp2_with (at_builtin; refine wp_append_str rfl _ _ rfl w.heap.size _ done.length _ rfl (hown.alloc _) _ t rfl ?c1 ?c2 ?c3 ?_)
        case c1 => simp
        case c2 => omega
        case c3 => have := hbe.size; simp; omega
        intro g1 cap1 w1 ho1 hb1
        rw [HTt.out] at ho1
        go_wp2
        go_roundw
        case rel => exact ⟨k + 1, k + 1, q, done ++ [(s.data.toList.drop fr).take (k - fr)], g1, cap1, by go_num, by go_num, rfl, by rw [List.length_append]; rfl, by omega, HN.out, by rw [List.length_append, List.map_append]; exact ho1, (hbe.alloc hbe.size _).trans hb1⟩
        case measure => simp [intOf]; omega
    · have hd : done = spq false s.data.toList := by
        obtain ⟨_, _, h3 | h3⟩ := HC.out
        · have := h3.1; rw [EL.out] at this; exact absurd this hout
        · exact h3.2
      have HD := hide hd
      clear hd
      go_wp2
      go_ret
      rw [← HD.out]
      exact ⟨⟨g, cap, rfl, hown⟩, hbe⟩
end Go.Proofs.YtfhcniifennfbaaGreatDoor
namespace Go.Proofs.YtfhcniifennfbaaGreatDoor
open Go.RowKit M
set_option linter.unusedVariables false

theorem addH_le (p : List UInt8) (L : List (List UInt8)) (n : Nat) (h : ∀ x ∈ L, x.length ≤ n) : ∀ x ∈ addH p L, x.length ≤ p.length + n := by
  intro x hx
  cases L with
  | nil => simp [addH] at hx; subst hx; omega
  | cons y q =>
    rcases List.mem_cons.1 hx with rfl | hx
    · have := h y (by simp); rw [List.length_append]; omega
    · have := h x (by simp [hx]); omega
theorem spq_le : ∀ (l : List UInt8) (b : Bool), ∀ x ∈ spq b l, x.length ≤ l.length
  | [], b, x, hx => by simp [spq] at hx; simp [hx]
  | c :: r, b, x, hx => by
    rw [spq] at hx
    split at hx
    · rcases List.mem_cons.1 hx with rfl | hx
      · simp
      · have := spq_le r false x hx; simp; omega
    · have := addH_le [c] _ r.length (fun y hy => spq_le r _ y hy) x hx
      simp at this ⊢; omega
theorem addH_len (p : List UInt8) (L : List (List UInt8)) (h : L ≠ []) : (addH p L).length = L.length := by
  cases L with
  | nil => exact absurd rfl h
  | cons y q => rfl
theorem spq_len : ∀ (l : List UInt8) (b : Bool), (spq b l).length ≤ l.length + 1
  | [], b => by simp [spq]
  | c :: r, b => by
    rw [spq]
    split
    · have := spq_len r false; simp; omega
    · rw [addH_len _ _ (spq_ne _ _)]
      have := spq_len r (if c = 34 then !b else b); simp; omega
theorem trim_le (l : List UInt8) : (trimL l).length ≤ l.length := by
  obtain ⟨b1, b2, _, _, e⟩ := trim_parts l
  have := congrArg List.length e
  rw [List.length_append, List.length_append] at this
  omega
theorem OwnS.one (w : World) (x : ByteArray) (T : TypeId) : OwnS (w.alloc (.cells #[.string x] T)) w.heap.size (.slice (some ⟨w.heap.size, 0, none⟩) 1 1) [x] :=
  ⟨w.heap.size, 1, rfl, Nat.le_refl _, by unfold maxLen; decide, Nat.le_refl _, by simp, fun j hj => by
    have : j = 0 := by simpa using hj
    subst this
    exact ⟨by simp, World.frozen?_alloc_new w _ _ 0⟩⟩
theorem OwnS.none9 (w : World) (B : Nat) (hB : B ≤ w.heap.size) : OwnS (w.alloc (.cells #[] 9)) B (.slice (some ⟨w.heap.size, 0, none⟩) 0 0) [] := OwnS.made w B hB _ _
theorem star_iff (s : ByteArray) : (s.toList == [42]) = decide (s.data.toList = [42]) := by
  rw [ByteArray.toList_eq]
  by_cases h : s.data.toList = [42]
  · simp [h]
  · simp [h]
theorem all_snoc (ps : List (List UInt8)) (k : Nat) (hk : k < ps.length) (h : ((ps.take k).map trimL).all tagB = true) (h1 : tagB (trimL ps[k]) = true) : ((ps.take (k + 1)).map trimL).all tagB = true := by
  rw [List.take_succ_eq_append_getElem hk, List.map_append, List.all_append, h]
  simp [h1]
theorem all_not (ps : List (List UInt8)) (k : Nat) (hk : k < ps.length) (h1 : tagB (trimL ps[k]) = false) : ¬ ((ps.map trimL).all tagB = true) := by
  intro h
  rw [List.all_eq_true] at h
  have := h (trimL ps[k]) (List.mem_map_of_mem (List.getElem_mem hk))
  rw [h1] at this
  cases this
theorem map_tgS (ps : List (List UInt8)) : ps.map tgS = (ps.map trimL).map bytesOf := by rw [List.map_map]; rfl

/-- What ParseTags gives. -/
def TagRet (w : World) (l : List UInt8) (e : Ending) (w' : World) : Prop := ∃ v, e = .returned (.tuple #[v, .bool (tagsR l).2]) ∧ OwnS w' w.heap.size v ((tagsR l).1.map bytesOf)

set_option maxHeartbeats 2000000 in
theorem specParseTags_any (s : ByteArray) (w : World) (hs : s.size ≤ 1048576) :
    Calls Tryz.prog 89 #[.string s] w fun e w' => TagRet w s.data.toList e w' ∧ Below w.heap.size w w' := by
  have HST := star_iff s
  by_cases h0 : s.data.toList = [42]
  · have HR : Hid (tagsR s.data.toList = ([[42]], true)) := by show tagsR s.data.toList = _; rw [h0]; rfl
    rw [decide_eq_true h0] at HST
    clear h0
    go_enter Tryz.func89, Tryz.ntmps89
    go_wp2
    go_ret2
    refine ⟨⟨?_, ?_, ?_⟩, (Below.refl _ _).alloc (Nat.le_refl _) _⟩
    · exact .slice (some ⟨w.heap.size, 0, none⟩) 1 1
    · rw [HR.out]; rfl
    · rw [HR.out]
      exact OwnS.one w _ _
  · have HR := hide (tagsR_spec h0)
    rw [decide_eq_false h0] at HST
    clear h0
    have HSP := hide (fun W => l9Split_any s W hs)
    have EL := hide (show s.data.toList.length = s.size from Array.length_toList)
    have hle := spq_le s.data.toList false
    have hln := spq_len s.data.toList false
    obtain ⟨ps, hps⟩ : ∃ ps, spq false s.data.toList = ps := ⟨_, rfl⟩
    rw [hps] at HR HSP hle hln
    clear hps
    obtain ⟨n, hn⟩ : ∃ n, ps.length = n := ⟨_, rfl⟩
    rw [hn] at HR HSP hln
    have HLE := hide hle
    have HN := hide hn
    have hnb : n ≤ 1048577 := by rw [EL.out] at hln; omega
    clear hle hn hln
    go_enter Tryz.func89, Tryz.ntmps89
    go_wp2_with fail
    refine (HSP.out w).mono ?_
    rintro e w1 ⟨⟨g, cap, rfl, hown⟩, b1⟩
    have hcs : ∀ j (hj : j < ps.length), w1.cell? ⟨g, j, none⟩ = some (.string (tgS ps[j])) := fun j hj => by rw [hown.cellAt j (by have := HN.out; omega)]; simp [strCells, List.getElem?_eq_getElem hj]
    have HO := hide hown
    have HCS := hide hcs
    clear hown hcs HSP
    go_wp2
    go_loop [5] (fun i => ∃ k : Nat, k ≤ n ∧ i = .int .i64 k ∧ ((ps.take k).map trimL).all tagB = true) (fun i => n - (intOf i).toNat)
    case atStart => exact ⟨0, Nat.zero_le _, rfl, rfl⟩
    case round =>
      obtain ⟨k, hk, rfl, hal⟩ := hrel
      have HA := hide hal
      clear hal
      by_cases hlt : k < n
      · have hkp : k < ps.length := by rw [HN.out]; exact hlt
        have hcx := HCS.out k hkp
        have HT := hide (l9Tag_any (tgS ps[k]) w1 (by
          have h1 := HLE.out _ (List.getElem_mem hkp)
          have h2 := trim_le ps[k]
          rw [EL.out] at h1
          show (bytesOf (trimL ps[k])).size ≤ maxLen
          rw [bytesOf_size]; unfold maxLen; omega))
        cases ht : tagB (trimL ps[k])
        · have HF : Hid (tagsR s.data.toList = ([], false)) := by
            show tagsR s.data.toList = _
            rw [HR.out, if_neg (fun e => all_not ps k hkp ht e.1)]
          have HT' : Hid (Calls Tryz.prog 122 #[.string (tgS ps[k])] w1 fun e w' => e = .returned (.bool false) ∧ w' = w1) := by
            have := HT.out
            rw [show tagB (tgS ps[k]).data.toList = false from ht] at this
            exact this
          clear ht HT
          go_wp2_with fail
          refine HT'.out.mono ?_
          rintro e w2 ⟨rfl, hw⟩
          obtain rfl := hw.symm
          go_wp2
          go_ret2
          refine ⟨⟨?_, ?_, ?_⟩, b1.alloc b1.size _⟩
          · exact .slice (some ⟨w1.heap.size, 0, none⟩) 0 0
          · rw [HF.out]; rfl
          · rw [HF.out]; exact OwnS.none9 w1 w.heap.size b1.size
        · have HAS := hide (all_snoc ps k hkp HA.out ht)
          have HT' : Hid (Calls Tryz.prog 122 #[.string (tgS ps[k])] w1 fun e w' => e = .returned (.bool true) ∧ w' = w1) := by
            have := HT.out
            rw [show tagB (tgS ps[k]).data.toList = true from ht] at this
            exact this
          clear ht HT
          go_wp2_with fail
          refine HT'.out.mono ?_
          rintro e w2 ⟨rfl, hw⟩
          obtain rfl := hw.symm
          go_wp2
          go_round
          case rel => exact ⟨k + 1, by omega, by go_num, HAS.out⟩
          case measure => simp [intOf]; omega
      · have hall : (ps.map trimL).all tagB = true := by
          have := HA.out
          rw [List.take_of_length_le (by rw [HN.out]; omega)] at this
          exact this
        by_cases h5 : n ≤ 5
        · have HF : Hid (tagsR s.data.toList = (ps.map trimL, true)) := by
            show tagsR s.data.toList = _
            rw [HR.out, if_pos ⟨hall, h5⟩]
          have h5' : ¬ (5 : Int) < n := by omega
          clear hall
          go_wp2
          go_ret2
          refine ⟨⟨?_, ?_, ?_⟩, b1⟩
          · exact .slice (some ⟨g, 0, none⟩) n cap
          · rw [HF.out]; rfl
          · rw [HF.out, ← map_tgS]
            exact OwnS.of HO.out (by rw [List.length_map, HN.out])
        · have HF : Hid (tagsR s.data.toList = ([], false)) := by
            show tagsR s.data.toList = _
            rw [HR.out, if_neg (fun e => h5 e.2)]
          have h5' : (5 : Int) < n := by omega
          clear hall
          go_wp2
          go_ret2
          refine ⟨⟨?_, ?_, ?_⟩, b1.alloc b1.size _⟩
          · exact .slice (some ⟨w1.heap.size, 0, none⟩) 0 0
          · rw [HF.out]; rfl
          · rw [HF.out]; exact OwnS.none9 w1 w.heap.size b1.size
end Go.Proofs.YtfhcniifennfbaaGreatDoor
namespace Go.Proofs.YtfhcniifennfbaaGreatDoor
open Go.RowKit

set_option maxHeartbeats 400000 in
theorem clone_any (s : ByteArray) (w : World) (hs : s.size ≤ 281474976710656) :
    Calls Tryz.prog 94 #[.string s] w fun e w' => e = .returned (.string s) ∧ Below w.heap.size w w' := by
  go_enter Tryz.func94, Tryz.ntmps94
  go_wp2_with (go_at_call 124; refine (Tryz.stringslite_Clone s _ hs).mono ?_; rintro e w1 ⟨rfl, hb1⟩)
  go_ret
  exact ⟨rfl, hb1⟩
end Go.Proofs.YtfhcniifennfbaaGreatDoor
namespace Go.Proofs.YtfhcniifennfbaaGreatDoor
open Go.RowKit M

set_option maxHeartbeats 1000000 in
theorem trim_any (s : ByteArray) (w : World) (hs : s.size ≤ 281474976710656) :
    Calls Tryz.prog 226 #[.string s] w fun e w' => (∃ t : ByteArray, e = .returned (.string t) ∧ t.data.toList = trimL s.data.toList) ∧ Below w.heap.size w w' := by
  go_enter Tryz.func226, Tryz.ntmps226
  go_wp2
  go_loopw [3] (fun i wr => ∃ a : Nat, a ≤ s.size ∧ i = .int .i64 a ∧ Below w.heap.size w wr ∧ trimL (cut s a s.size) = trimL s.data.toList) (fun i _ => s.size - (intOf i).toNat)
  case atStart => exact ⟨0, Nat.zero_le _, rfl, Below.refl _ _, by rw [cut_all]⟩
  case round =>
    obtain ⟨a, ha, rfl, hbe, hn⟩ := hrel
    have HN : Hid (trimL (cut s a s.size) = trimL s.data.toList) := hn; clear hn
    by_cases h0 : a < s.size
    · cases hb : bl s[a]
      · go_wp2_with (go_at_call 127; refine (isOneOf_any _ [1] 1 _ 0 1 _ rfl (by decide) (cells1 _ 1 161)).mono ?_; rintro e w' ⟨rfl, rfl⟩; rw [anyB_bl, hb])
        have hbe1 : Below w.heap.size w (wr.alloc (Obj.cells #[Value.int IntKind.i64 1] 161)) := hbe.alloc hbe.size _
        go_loopw [4] (fun j wx => ∃ b : Nat, a ≤ b ∧ b ≤ s.size ∧ j = .int .i64 b ∧ Below w.heap.size w wx ∧ trimL (cut s a b) = trimL s.data.toList) (fun j _ => (intOf j).toNat)
        case atStart => exact ⟨s.size, ha, Nat.le_refl _, rfl, hbe1, HN.out⟩
        case round =>
          clear hbe1 hbe
          obtain ⟨b, hab, hbs, rfl, hbx, hn⟩ := hrel
          have HB : Hid (trimL (cut s a b) = trimL s.data.toList) := hn; clear hn
          by_cases h1 : a < b
          · cases hb1 : bl s[b - 1]
            · have HD : Hid ((s.extract a b).data.toList = trimL s.data.toList) := by
                show _ = _
                rw [← HB.out, extract_cut, cut_trim_done s a b hbs h1 hb hb1]
              have hsz : (s.extract a b).size ≤ 281474976710656 := by rw [size_extract s a b hbs]; omega
              go_wp2_with (first | (go_at_call 127; refine (isOneOf_any _ [1] 1 _ 0 1 _ rfl (by decide) (cells1 _ 1 161)).mono ?_; rintro e w' ⟨rfl, rfl⟩; rw [anyB_bl, hb1]) | (go_at_call 94; refine (clone_any _ _ hsz).mono ?_; rintro e w1 ⟨rfl, hb2⟩))
              go_ret
              exact ⟨⟨_, rfl, HD.out⟩, (hbx.alloc hbx.size _).trans (hb2.mono (by have := hbx.size; simp; omega))⟩
            · go_wp2_with (go_at_call 127; refine (isOneOf_any _ [1] 1 _ 0 1 _ rfl (by decide) (cells1 _ 1 161)).mono ?_; rintro e w' ⟨rfl, rfl⟩; rw [anyB_bl, hb1])
              go_roundw
              case rel => exact ⟨b - 1, by omega, by omega, by go_num, hbx.alloc hbx.size _, by rw [← HB.out]; exact (cut_trim_back s a b hbs h1 hb1).symm⟩
              case measure => simp [intOf]; omega
          · have HD : Hid ((s.extract a b).data.toList = trimL s.data.toList) := by
              show _ = _
              rw [← HB.out, extract_cut, cut_empty s a b (by omega)]; rfl
            have hsz : (s.extract a b).size ≤ 281474976710656 := by rw [size_extract s a b hbs]; omega
            go_wp2_with (go_at_call 94; refine (clone_any _ _ hsz).mono ?_; rintro e w1 ⟨rfl, hb2⟩)
            go_ret
            exact ⟨⟨_, rfl, HD.out⟩, hbx.trans (hb2.mono hbx.size)⟩
      · go_wp2_with (go_at_call 127; refine (isOneOf_any _ [1] 1 _ 0 1 _ rfl (by decide) (cells1 _ 1 161)).mono ?_; rintro e w' ⟨rfl, rfl⟩; rw [anyB_bl, hb])
        go_roundw
        case rel => exact ⟨a + 1, by omega, by go_num, hbe.alloc hbe.size _, by rw [← HN.out]; exact (cut_trim_front s a s.size (Nat.le_refl _) h0 hb).symm⟩
        case measure => simp [intOf]; omega
    · have HD : Hid ((s.extract a s.size).data.toList = trimL s.data.toList) := by
        show _ = _
        rw [← HN.out, extract_cut, cut_empty s _ _ (by omega)]; rfl
      have hsz : (s.extract a s.size).size ≤ 281474976710656 := by rw [size_extract s _ _ (Nat.le_refl _)]; omega
      go_wp2
      go_loopw [4] (fun j wx => j = .int .i64 s.size ∧ wx = wr) (fun j _ => (intOf j).toNat)
      case atStart => exact ⟨rfl, rfl⟩
      case round =>
        obtain ⟨rfl, rfl⟩ := hrel
        go_wp2_with (go_at_call 94; refine (clone_any _ _ hsz).mono ?_; rintro e w1 ⟨rfl, hb2⟩)
        go_ret
        exact ⟨⟨_, rfl, HD.out⟩, hbe.trans (hb2.mono hbe.size)⟩
end Go.Proofs.YtfhcniifennfbaaGreatDoor
namespace Go.Proofs.YtfhcniifennfbaaGreatDoor
open Go.RowKit M
set_option linter.unusedVariables false

/-- How far a list of marks is read. -/
def ReadT (l : List UInt8) (r : List UInt8) (acc : List (List UInt8)) (more : Bool) : Prop :=
  if more = true then ∃ f, r.length < f ∧ tgs (l.length + 1) l [] = tgs f r acc
  else tgs (l.length + 1) l [] = if r = [] then some acc else none
theorem ReadT.start (l : List UInt8) : ReadT l l [] true := by
  unfold ReadT; rw [if_pos rfl]; exact ⟨l.length + 1, by omega, rfl⟩
theorem ReadT.bad {l r : List UInt8} {acc : List (List UInt8)} (h : ReadT l r acc true) (hc : cutT (trimL r) = none) : tgs (l.length + 1) l [] = none := by
  unfold ReadT at h
  rw [if_pos rfl] at h
  obtain ⟨f, h1, h2⟩ := h
  cases f with
  | zero => omega
  | succ f => rw [h2, tgs, hc]
theorem ReadT.full {l r : List UInt8} {acc : List (List UInt8)} (h : ReadT l r acc true) (ha : acc.length = 5) : tgs (l.length + 1) l [] = none := by
  unfold ReadT at h
  rw [if_pos rfl] at h
  obtain ⟨f, h1, h2⟩ := h
  cases f with
  | zero => omega
  | succ f =>
    rw [h2, tgs]
    split
    · rfl
    · rw [if_pos ha]
theorem ReadT.next {l r m y : List UInt8} {acc : List (List UInt8)} (h : ReadT l r acc true) (hc : cutT (trimL r) = some (m, y)) (ha : acc.length ≠ 5) :
    ReadT l (if (trimL y).head? = some 44 then (trimL y).drop 1 else trimL y) (acc ++ [tagL m]) (decide ((trimL y).head? = some 44)) := by
  unfold ReadT at h
  rw [if_pos rfl] at h
  obtain ⟨f, h1, h2⟩ := h
  cases f with
  | zero => omega
  | succ f =>
    have e0 : tgs (f + 1) r acc = if trimL y = [] then some (acc ++ [tagL m]) else if (trimL y).head? = some 44 then tgs f (trimL y).tail (acc ++ [tagL m]) else none := by
      rw [tgs, hc]
      simp only [ha, if_false]
    rw [e0] at h2
    have hl : (trimL y).length < r.length := by
      have e1 := trim_le y
      have e2 := trim_le r
      have e3 := congrArg List.length (cutT_some hc).1
      rw [List.length_append, tagL_len] at e3
      omega
    unfold ReadT
    by_cases h0 : trimL y = []
    · rw [h0] at h2 ⊢
      rw [if_pos rfl] at h2
      simp [h2]
    · rw [if_neg h0] at h2
      by_cases h44 : (trimL y).head? = some 44
      · rw [if_pos h44] at h2
        rw [if_pos h44, decide_eq_true h44, if_pos rfl]
        refine ⟨f, by rw [List.length_drop]; omega, ?_⟩
        rw [h2, List.drop_one]
      · rw [if_neg h44] at h2
        rw [if_neg h44, decide_eq_false h44, if_neg (by simp), if_neg h0, h2]
theorem next_len (y : List UInt8) (h : decide ((trimL y).head? = some 44) = true) : (if (trimL y).head? = some 44 then (trimL y).drop 1 else trimL y).length + 1 ≤ y.length := by
  have h' := of_decide_eq_true h
  rw [if_pos h']
  have := trim_le y
  cases ht : trimL y with
  | nil => rw [ht] at h'; cases h'
  | cons a r => rw [ht] at this; simp at this ⊢; omega
def moreOf : Value → Value → Nat
  | .bool true, .string s => s.size + 1
  | _, _ => 0
theorem moreOf_next (q : Bool) (s t : ByteArray) (h : q = true → s.size + 1 ≤ t.size) : moreOf (.bool q) (.string s) < moreOf (.bool true) (.string t) := by
  cases q
  · simp [moreOf]
  · have := h rfl; simp [moreOf]; omega
theorem empty_iff9 (s : ByteArray) : s.toList.isEmpty = decide (s.data.toList = []) := by
  rw [ByteArray.toList_eq]
  cases s.data.toList <;> simp
theorem cut_rest {x m y : List UInt8} (h : cutT x = some (m, y)) : y.length + 2 ≤ x.length ∧ m.length ≤ 10 := by
  obtain ⟨h1, _, h3⟩ := cutT_some h
  have e3 := congrArg List.length h1
  rw [List.length_append, tagL_len] at e3
  simp [innB] at h3
  exact ⟨by omega, h3.1⟩

set_option maxRecDepth 100000 in
set_option maxHeartbeats 8000000 in
theorem parseTags_any (s : ByteArray) (w : World) (hs : s.size ≤ 1048576) :
    Calls Tryz.prog 194 #[.string s] w fun e w' => TagRet w s.data.toList e w' ∧ Below w.heap.size w w' := by
  have HST := star_iff s
  by_cases h0 : s.data.toList = [42]
  · have HR : Hid (tagsR s.data.toList = ([[42]], true)) := by show tagsR s.data.toList = _; rw [h0]; rfl
    rw [decide_eq_true h0] at HST
    clear h0
    go_enter Tryz.func194, Tryz.ntmps194
    go_wp2
    go_ret2
    refine ⟨⟨?_, ?_, ?_⟩, (Below.refl _ _).alloc (Nat.le_refl _) _⟩
    · exact .slice (some ⟨w.heap.size, 0, none⟩) 1 1
    · rw [HR.out]; rfl
    · rw [HR.out]
      exact OwnS.one w _ _
  · have HN := hide (fun x => @tagsR_some s.data.toList x h0)
    have HF := hide (@tagsR_none s.data.toList h0)
    rw [decide_eq_false h0] at HST
    clear h0
    go_enter Tryz.func194, Tryz.ntmps194
    go_wp2
    go_loopw [0, 4, 5] (fun v0 v4 v5 wr => ∃ (t : ByteArray) (acc : List (List UInt8)) (g cap : Nat) (mo : Bool), v0 = .string t ∧ v4 = .slice (some ⟨g, 0, none⟩) acc.length cap ∧ v5 = .bool mo ∧ acc.length ≤ 5 ∧ t.size ≤ s.size ∧ ReadT s.data.toList t.data.toList acc mo ∧ wr.ownsRow w.heap.size 9 1 (.slice (some ⟨g, 0, none⟩) acc.length cap) acc.length (strCells (acc.map bytesOf)) ∧ Below w.heap.size w wr) (fun v0 _ v5 _ => moreOf v5 v0)
    case atStart => exact ⟨s, [], w.heap.size, 0, true, rfl, rfl, rfl, Nat.zero_le _, Nat.le_refl _, ReadT.start _, World.ownsRow_made w #[] 0 (Nat.le_refl _) (by decide) rfl, (Below.refl _ _).alloc (Nat.le_refl _) _⟩
    case round =>
      clear HST
      obtain ⟨t, acc, g, cap, mo, rfl, rfl, rfl, hacc, hts, hrd, hown, hbe⟩ := hrel
      have HRD := hide hrd
      have HO := hide hown
      have HB := hide hbe
      clear hrd hown hbe
      obtain ⟨n, hn⟩ : ∃ n, acc.length = n := ⟨_, rfl⟩
      have HNL := hide hn
      rw [hn] at HO hacc
      rw [hn]
      clear hn
      cases mo
      · have hE := empty_iff9 t
        by_cases he : t.data.toList = []
        · rw [decide_eq_true he] at hE
          have HR : Hid (tagsR s.data.toList = (acc, true)) := HN.out acc (by have := HRD.out; unfold ReadT at this; rw [if_neg (by simp), if_pos he] at this; exact this)
          clear he
          go_wp2
          go_ret2
          refine ⟨⟨?_, ?_, ?_⟩, HB.out⟩
          · exact .slice (some ⟨g, 0, none⟩) n cap
          · rw [HR.out]; rfl
          · rw [HR.out]
            exact OwnS.of HO.out (by rw [List.length_map, HNL.out])
        · rw [decide_eq_false he] at hE
          have HR : Hid (tagsR s.data.toList = ([], false)) := HF.out (by have := HRD.out; unfold ReadT at this; rw [if_neg (by simp), if_neg he] at this; exact this)
          clear he
          go_wp2
          go_ret2
          refine ⟨⟨?_, ?_, ?_⟩, HB.out.alloc HB.out.size _⟩
          · exact .slice (some ⟨wr.heap.size, 0, none⟩) 0 0
          · rw [HR.out]; rfl
          · rw [HR.out]; exact OwnS.none9 wr w.heap.size HB.out.size
      · have HT := hide (trim_any t wr (by omega))
        have HTZ := hide (show (trimL t.data.toList).length ≤ 1048576 by
          have h1 := trim_le t.data.toList
          have h2 : t.data.toList.length = t.size := Array.length_toList
          omega)
        have HTE := hide (show t.data.toList.length = t.size from Array.length_toList)
        cases hc : cutT (trimL t.data.toList) with
        | none =>
          have HR : Hid (tagsR s.data.toList = ([], false)) := HF.out (HRD.out.bad hc)
          have HC := hide hc
          clear hc
          go_wp2_with fail
          refine HT.out.mono ?_
          rintro e w1 ⟨⟨u, rfl, hu⟩, b1⟩
          have HK := hide (cutTag_none u w1 (by have h2 : u.data.toList.length = u.size := Array.length_toList; have := HTZ.out; rw [← hu] at this; omega) (by rw [hu]; exact HC.out))
          have C1 := hide (HB.out.trans (b1.mono HB.out.size))
          clear hu b1
          go_wp2_with fail
          refine HK.out.mono ?_
          rintro e w2 ⟨rfl, b2⟩
          have C2 := hide (C1.out.trans (b2.mono C1.out.size))
          clear b2
          go_wp2
          go_ret2
          refine ⟨⟨?_, ?_, ?_⟩, (C2.out.alloc C2.out.size _).alloc (by have := C2.out.size; simp; omega) _⟩
          · exact .slice (some ⟨w2.heap.size + 1, 0, none⟩) 0 0
          · rw [HR.out]; first | rfl | simp
          · rw [HR.out]
            have := OwnS.none9 (w2.alloc (Obj.cells #[.int .u8 0, .int .u8 0, .int .u8 0, .int .u8 0, .int .u8 0, .int .u8 0, .int .u8 0, .int .u8 0, .int .u8 0, .int .u8 0, .int .i64 0] 231)) w.heap.size (by have := C2.out.size; simp; omega)
            simpa using this
        | some p =>
          obtain ⟨m, y⟩ := p
          obtain ⟨hyl, hm10⟩ := cut_rest hc
          have hyz : y.length + 2 ≤ t.size := by have h1 := trim_le t.data.toList; have h2 := HTE.out; omega
          by_cases h5 : n = 5
          · have HR : Hid (tagsR s.data.toList = ([], false)) := HF.out (HRD.out.full (by rw [HNL.out, h5]))
            have HC := hide hc
            have h5' : ((n : Int) == 5) = true := by rw [h5]; rfl
            clear hc h5
            go_wp2_with fail
            refine HT.out.mono ?_
            rintro e w1 ⟨⟨u, rfl, hu⟩, b1⟩
            have HK := hide (cutTag_some u m y w1 (by have h2 : u.data.toList.length = u.size := Array.length_toList; have := HTZ.out; rw [← hu] at this; omega) (by rw [hu]; exact HC.out))
            have C1 := hide (HB.out.trans (b1.mono HB.out.size))
            clear hu b1
            go_wp2_with fail
            refine HK.out.mono ?_
            rintro e w2 ⟨rfl, b2⟩
            have C2 := hide (C1.out.trans (b2.mono C1.out.size))
            clear b2
            go_wp2
            go_ret2
            refine ⟨⟨?_, ?_, ?_⟩, (C2.out.alloc C2.out.size _).alloc (by have := C2.out.size; simp; omega) _⟩
            · exact .slice (some ⟨w2.heap.size + 1, 0, none⟩) 0 0
            · rw [HR.out]; first | rfl | simp
            · rw [HR.out]
              have := OwnS.none9 (w2.alloc (Obj.cells #[.int .u8 (vT m 0), .int .u8 (vT m 1), .int .u8 (vT m 2), .int .u8 (vT m 3), .int .u8 (vT m 4), .int .u8 (vT m 5), .int .u8 (vT m 6), .int .u8 (vT m 7), .int .u8 (vT m 8), .int .u8 (vT m 9), .int .i64 (m).length] 231)) w.heap.size (by have := C2.out.size; simp; omega)
              simpa using this
          · have HNX := hide (HRD.out.next hc (by rw [HNL.out]; exact h5))
            have HNE := hide (next_len y)
            have HC := hide hc
            have h5' : ((n : Int) == 5) = false := by apply beq_eq_false_iff_ne.2; omega
            have hn4 : n ≤ 4 := by omega
            clear hc h5
            go_wp2_with fail
            refine HT.out.mono ?_
            rintro e w1 ⟨⟨u, rfl, hu⟩, b1⟩
            have HK := hide (cutTag_some u m y w1 (by have h2 : u.data.toList.length = u.size := Array.length_toList; have := HTZ.out; rw [← hu] at this; omega) (by rw [hu]; exact HC.out))
            have C1 := hide (HB.out.trans (b1.mono HB.out.size))
            have O1 := hide (owns_below HO.out b1)
            clear hu b1
            go_wp2_with fail
            refine HK.out.mono ?_
            rintro e w2 ⟨rfl, b2⟩
            have C2 := hide ((C1.out.trans (b2.mono C1.out.size)).alloc (by have := b2.size; have := C1.out.size; omega) (Obj.cells #[.int .u8 (vT m 0), .int .u8 (vT m 1), .int .u8 (vT m 2), .int .u8 (vT m 3), .int .u8 (vT m 4), .int .u8 (vT m 5), .int .u8 (vT m 6), .int .u8 (vT m 7), .int .u8 (vT m 8), .int .u8 (vT m 9), .int .i64 (m).length] 231))
            have O2 := hide ((owns_below O1.out b2).alloc (Obj.cells #[.int .u8 (vT m 0), .int .u8 (vT m 1), .int .u8 (vT m 2), .int .u8 (vT m 3), .int .u8 (vT m 4), .int .u8 (vT m 5), .int .u8 (vT m 6), .int .u8 (vT m 7), .int .u8 (vT m 8), .int .u8 (vT m 9), .int .i64 (m).length] 231))
            have HTX := hide (text_any m (w2.alloc (Obj.cells #[.int .u8 (vT m 0), .int .u8 (vT m 1), .int .u8 (vT m 2), .int .u8 (vT m 3), .int .u8 (vT m 4), .int .u8 (vT m 5), .int .u8 (vT m 6), .int .u8 (vT m 7), .int .u8 (vT m 8), .int .u8 (vT m 9), .int .i64 (m).length] 231)) hm10)
            clear b2
            go_wp2_with fail
            refine HTX.out.mono ?_
            rintro e w3 ⟨rfl, b3⟩
            have C3 := hide (C2.out.trans (b3.mono C2.out.size))
            have O3 := hide (owns_below O2.out b3)
            clear b3
            go_wp2_with (at_builtin; refine wp_append_str rfl _ _ rfl w.heap.size _ n _ rfl (O3.out.alloc _) _ (bytesOf (tagL m)) rfl ?c1 ?c2 ?c3 ?_)
            case c1 => simp
            case c2 => omega
            case c3 => have := C3.out.size; simp; omega
            intro g1 cap1 w4 ho4 hb4
            have O4 := hide ho4
            have C4 := hide ((C3.out.alloc C3.out.size _).trans hb4)
            clear ho4 hb4
            have HT5 := hide (trim_any (bytesOf y) w4 (by rw [bytesOf_size]; omega))
            go_wp2_with fail
            refine HT5.out.mono ?_
            rintro e w5 ⟨⟨v, rfl, hv⟩, b5⟩
            have hv' : v.data.toList = trimL y := hv
            have HP6 := hide (cutPre_any v 44 w5)
            rw [hv'] at HP6
            have C5 := hide (C4.out.trans (b5.mono C4.out.size))
            have O5 := hide (owns_below O4.out b5)
            have HZ6 := hide (show (bytesOf (if (trimL y).head? = some 44 then (trimL y).drop 1 else trimL y)).size ≤ s.size by
              rw [bytesOf_size]
              have := trim_le y
              split
              · rw [List.length_drop]; omega
              · omega)
            have HM6 := hide (moreOf_next (decide ((trimL y).head? = some 44)) (bytesOf (if (trimL y).head? = some 44 then (trimL y).drop 1 else trimL y)) t (fun e => by rw [bytesOf_size]; have := HNE.out e; omega))
            obtain ⟨x, hx⟩ : ∃ x, (if (trimL y).head? = some 44 then (trimL y).drop 1 else trimL y) = x := ⟨_, rfl⟩
            obtain ⟨q, hq⟩ : ∃ q, decide ((trimL y).head? = some 44) = q := ⟨_, rfl⟩
            rw [hx, hq] at HP6 HNX HM6
            rw [hx] at HZ6
            clear hv hv' b5 HNE hx hq
            go_wp2_with fail
            refine HP6.out.mono ?_
            rintro e w6 ⟨rfl, hw⟩
            obtain rfl := hw.symm
            go_wp2
            go_roundw
            case rel => exact ⟨bytesOf x, acc ++ [tagL m], g1, cap1, q, rfl, by rw [List.length_append, HNL.out]; rfl, rfl, by rw [List.length_append, HNL.out]; simp; omega, HZ6.out, HNX.out, by rw [List.length_append, HNL.out, List.map_append]; exact O5.out, C5.out⟩
            case measure => exact HM6.out
end Go.Proofs.YtfhcniifennfbaaGreatDoor
namespace Go.Proofs.YtfhcniifennfbaaGreatDoor
open Go.RowKit M
set_option linter.unusedVariables false

set_option maxHeartbeats 1000000 in
theorem l9Has_any (g n cap : Nat) (ns : List ByteArray) (t : ByteArray) (w : World) (hn : ns.length = n) (hl : n ≤ 1000) (hc : ∀ j (hj : j < ns.length), w.cell? ⟨g, j, none⟩ = some (.string ns[j])) :
    Calls Tryz.prog 50 #[.slice (some ⟨g, 0, none⟩) n cap, .string t] w fun e w' => e = .returned (.bool (hasB ns t)) ∧ w' = w := by
  have HN := hide hn
  have HC := hide hc
  clear hn hc
  go_enter Tryz.func50, Tryz.ntmps50
  go_wp2
  go_loop [5] (fun i => ∃ k : Nat, k ≤ n ∧ i = .int .i64 k ∧ t ∉ ns.take k) (fun i => n - (intOf i).toNat)
  case atStart => exact ⟨0, Nat.zero_le _, rfl, by simp⟩
  case round =>
    obtain ⟨k, hk, rfl, hal⟩ := hrel
    have HA := hide hal
    clear hal
    by_cases hlt : k < n
    · have hkp : k < ns.length := by rw [HN.out]; exact hlt
      have hcx := HC.out k hkp
      have hse := str_eq ns[k] t
      by_cases he : ns[k] = t
      · have HR := hide (has_at k hkp he)
        rw [decide_eq_true he] at hse
        clear he
        go_wp2
        go_ret
        exact ⟨ret_bool HR.out.symm, rfl⟩
      · have HA2 := hide (show t ∉ ns.take (k + 1) by
          rw [List.take_succ_eq_append_getElem hkp]
          intro hm
          rcases List.mem_append.1 hm with hm | hm
          · exact HA.out hm
          · exact he (List.mem_singleton.1 hm).symm)
        rw [decide_eq_false he] at hse
        clear he
        go_wp2
        go_round
        case rel => exact ⟨k + 1, by omega, by go_num, HA2.out⟩
        case measure => simp [intOf]; omega
    · have HR : Hid (hasB ns t = false) := by
        show hasB ns t = false
        apply hasB_no
        have := HA.out
        rw [List.take_of_length_le (by rw [HN.out]; omega)] at this
        exact this
      go_wp2
      go_ret
      exact ⟨ret_bool HR.out.symm, rfl⟩

end Go.Proofs.YtfhcniifennfbaaGreatDoor
