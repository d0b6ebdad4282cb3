/-
  What impl.cutCond does.
  What impl.cutList does.
  What impl.ParseIf does.
  ParseIf on both sides, over views.
  What the laws' own markText does.
  A help of the laws, by program (tools/gen_help.py): Mark of Cond.
  A help of the laws, by program (tools/gen_help.py): Mark of CondS.
  A help of the laws, by program (tools/gen_help.py): Held of Cond.
  A help of the laws, by program (tools/gen_help.py): Held of CondS.
  A help of the laws, by program (tools/gen_help.py): Eq1 of Cond.
  A help of the laws, by program (tools/gen_help.py): Eqq of Cond.
  A help of the laws, by program (tools/gen_help.py): Eqq of CondS.
-/
import Derived.Test.YtmgikfeknmbpbaaDoorCutIf1
import Derived.Test.YtmgikfeknmbpbaaDoorTurn
import Derived.Test.YtmgikfeknmbpbaaDoorAt7
import Derived.Test.YtmgikfeknmbpbaaDoorSpecParseIf
import Derived.Test.YtmgikfeknmbpbaaDoorRows
import Derived.WalkKit
import Derived.WalkSpells
import Derived.WalkLawsBesides
import Derived.Deep.Light
import Derived.Laws.IdiomStrings
import Derived.Laws.BytesArg
import Derived.Test.YtmgikfeknmbpbaaDoorGenLeaf
import Derived.Test.YtmgikfeknmbpbaaDoorGenBox
import Derived.Test.YtmgikfeknmbpbaaDoorGenCond
import Derived.Deep.QuietTactic
import Derived.Deep.RegionHeld3
namespace Go.Proofs.YtmgikfeknmbpbaaDoor
open Go.RowKit M
set_option linter.unusedVariables false

theorem cutPreL (l : List UInt8) (c : UInt8) (w : World) :
    Calls Tryd.prog 30 #[.string (bytesOf l), .string ⟨#[c]⟩] w fun e w' => e = .returned (.tuple #[.string (bytesOf (if l.head? = some c then l.tail else l)), .bool (decide (l.head? = some c))]) ∧ w' = w := by
  have h := cutPre_any (bytesOf l) c w
  rw [bytesI, List.drop_one] at h
  exact h
theorem cutPre_ex (r : ByteArray) (c : UInt8) : ∃ (t : ByteArray) (b : Bool), ∀ W, Calls Tryd.prog 30 #[.string r, .string ⟨#[c]⟩] W fun e w' => e = .returned (.tuple #[.string t, .bool b]) ∧ w' = W := ⟨_, _, fun W => cutPre_any r c W⟩
theorem cutPre_yes {l : List UInt8} {c : UInt8} (h : l.head? = some c) (w : World) :
    Calls Tryd.prog 30 #[.string (bytesOf l), .string ⟨#[c]⟩] w fun e w' => e = .returned (.tuple #[.string (bytesOf l.tail), .bool true]) ∧ w' = w := by
  have h1 := cutPreL l c w
  rw [if_pos h, decide_eq_true h] at h1
  exact h1
theorem cutPre_no {l : List UInt8} {c : UInt8} (h : ¬ l.head? = some c) (w : World) :
    Calls Tryd.prog 30 #[.string (bytesOf l), .string ⟨#[c]⟩] w fun e w' => e = .returned (.tuple #[.string (bytesOf l), .bool false]) ∧ w' = w := by
  have h1 := cutPreL l c w
  rw [if_neg h, decide_eq_false h] at h1
  exact h1
theorem cutNotI (l : List UInt8) (w : World) :
    Calls Tryd.prog 30 #[.string (bytesOf l), .string ⟨#[78, 111, 116, 32]⟩] w fun e w' => e = .returned (.tuple #[.string (bytesOf (cutNot l).2), .bool (cutNot l).1]) ∧ w' = w := by
  have h := Tryd.strings_CutPrefix (bytesOf l) ⟨#[78, 111, 116, 32]⟩ w
  have e1 : (⟨#[78, 111, 116, 32]⟩ : ByteArray).data.toList = notL := rfl
  rw [e1, bytesI] at h
  have e2 : Lib.hasPrefix l notL = (cutNot l).1 := by
    unfold Lib.hasPrefix cutNot
    cases notL.isPrefixOf l <;> simp
  have e3 : Lib.trimPrefix l notL = (cutNot l).2 := by
    unfold Lib.trimPrefix Lib.hasPrefix cutNot
    cases notL.isPrefixOf l <;> simp [notL]
  rw [e2, e3] at h
  exact h
theorem cutFull_any (l : List UInt8) (hl : l.length ≤ 1048576) : ∃ (t r : ByteArray) (ok : Bool), ∀ W, Calls Tryd.prog 51 #[.string (bytesOf l)] W fun e w' => e = .returned (.tuple #[.string t, .string r, .bool ok]) ∧ Below W.heap.size W w' := by
  cases hc : cutT l with
  | none => exact ⟨_, _, _, fun W => cutFull_none l W hl hc⟩
  | some p => exact ⟨_, _, _, fun W => cutFull_some l p.1 p.2 W hl hc⟩

/-- What the reading of one comes to. -/
def CondI (l : List UInt8) (e : Ending) : Prop := match condL l with
  | none => ∃ (c : Cn) (r : ByteArray), e = .returned (.tuple #[.agg #[.bool c.no, .int .i64 c.tk, .string c.tg], .string r, .bool false])
  | some (c, q) => e = .returned (.tuple #[.agg #[.bool c.no, .int .i64 c.tk, .string c.tg], .string (bytesOf q), .bool true])
theorem condI_no {l : List UInt8} (h : condL l = none) (no : Bool) (tk : Int) (tg r : ByteArray) : CondI l (.returned (.tuple #[.agg #[.bool no, .int .i64 tk, .string tg], .string r, .bool false])) := by
  unfold CondI
  rw [h]
  exact ⟨⟨no, tk, tg⟩, r, rfl⟩
theorem condI_tok {l : List UInt8} (h : (cutNot l).2.head? = some 60) : CondI l (.returned (.tuple #[.agg #[.bool (cutNot l).1, .int .i64 (parseNum (upTo 62 (cutNot l).2.tail) 9999).1, .string ⟨#[]⟩], .string (bytesOf (fromB 62 (cutNot l).2.tail).tail), .bool (okT (cutNot l).2.tail)])) := by
  have hc : condL l = tokC (cutNot l).1 (cutNot l).2.tail := by unfold condL bodyC; rw [if_pos h]
  rw [tokC_is] at hc
  cases hk : okT (cutNot l).2.tail
  · rw [hk, if_neg (by simp)] at hc
    exact condI_no hc _ _ _ _
  · rw [hk, if_pos rfl] at hc
    unfold CondI
    rw [hc]
theorem cond_else {l : List UInt8} (h : ¬ (cutNot l).2.head? = some 60) (h2 : ¬ (cutNot l).2.head? = some 91) : condL l = none := by
  unfold condL bodyC
  rw [if_neg h, if_neg h2]
theorem cond_tag {l : List UInt8} (h : ¬ (cutNot l).2.head? = some 60) (h2 : (cutNot l).2.head? = some 91) : condL l = tagC (cutNot l).1 (cutNot l).2.tail := by
  unfold condL bodyC
  rw [if_neg h, if_pos h2]

set_option maxRecDepth 100000 in
set_option maxHeartbeats 8000000 in
theorem cutCond_any (l : List UInt8) (w : World) (hl : l.length ≤ 1048576) :
    Calls Tryd.prog 31 #[.string (bytesOf l)] w fun e w' => CondI l e ∧ Below w.heap.size w w' := by
  have b0 := (Below.refl w.heap.size w).alloc (Nat.le_refl _) (Obj.cells #[.bool false, .int .i64 0, .string { data := #[] }] 48)
  have HB0 := hide b0
  have HX0 := hide (BoxV.made w [.bool false, .int .i64 0, .string { data := #[] }] 48)
  have HN := hide (fun W => cutNotI l W)
  have hl1 := cutNot_len l
  have HTK := hide (@condI_tok l)
  have HEL := hide (@cond_else l)
  have HTG := hide (@cond_tag l)
  have HNO := hide (@condI_no l)
  obtain ⟨z1, hz1⟩ : ∃ z, (cutNot l).1 = z := ⟨_, rfl⟩
  obtain ⟨l1, hl1e⟩ : ∃ z, (cutNot l).2 = z := ⟨_, rfl⟩
  rw [hz1, hl1e] at HN HTK HTG
  rw [hl1e] at HEL hl1
  clear hz1 hl1e b0
  go_enter Tryd.func31, Tryd.ntmps31
  go_wp2_with fail
  refine (HN.out _).mono ?_
  rintro e w1 ⟨rfl, hw⟩
  subst hw
  clear HN
  by_cases h60 : l1.head? = some 60
  · have HP := hide (fun W => cutPre_yes h60 W)
    have HRET := hide (HTK.out h60)
    have HT := hide (fun W => cutToken_any l1.tail W (by rw [List.length_tail]; omega))
    generalize (parseNum (upTo 62 l1.tail) 9999).1 = n at *
    generalize okT l1.tail = ok at *
    generalize (fromB 62 l1.tail).tail = r at *
    clear HTK HEL HTG HNO h60
    go_wp2_with fail
    refine (HP.out _).mono ?_
    rintro e w1 ⟨rfl, hw⟩
    subst hw
    go_wp2_with fail
    refine (HT.out _).mono ?_
    rintro e w1 ⟨rfl, b1⟩
    have HX := hide (HX0.out.next b1)
    have HB := hide (HB0.out.trans (b1.mono HB0.out.size))
    obtain ⟨q0, k0⟩ := HX.out.2 0 _ rfl
    obtain ⟨q1, k1⟩ := HX.out.2 1 _ rfl
    obtain ⟨q2, k2⟩ := HX.out.2 2 _ rfl
    clear b1 HX HX0 HB0 HP HT
    go_wp2
    refine bodyPost_ret (v := .tuple #[.agg #[.bool z1, .int .i64 n, .string { data := #[] }], .string (bytesOf r), .bool ok]) (by simp [results, Tryd.results31, go_sem, q0, q1, q2]) rfl ⟨HRET.out, ((HB.out.setCell (Nat.le_refl _) _).setCell (Nat.le_refl _) _).setCell (Nat.le_refl _) _⟩
  · have HP := hide (fun W => cutPre_no h60 W)
    have HEL2 := hide (HEL.out h60)
    have HTG2 := hide (HTG.out h60)
    clear HTK HEL HTG h60
    go_wp2_with fail
    refine (HP.out _).mono ?_
    rintro e w1 ⟨rfl, hw⟩
    subst hw
    clear HP
    by_cases h91 : l1.head? = some 91
    · have HP := hide (fun W => cutPre_yes h91 W)
      have HC := hide (HTG2.out h91)
      obtain ⟨l2, hl2⟩ : ∃ z, l1.tail = z := ⟨_, rfl⟩
      have hl2l : l2.length ≤ 1048576 := by rw [← hl2, List.length_tail]; omega
      rw [hl2] at HP HC
      clear HEL2 HTG2 h91 hl2
      go_wp2_with fail
      refine (HP.out _).mono ?_
      rintro e w1 ⟨rfl, hw⟩
      subst hw
      clear HP
      cases hc : cutT l2 with
      | none =>
        have HF := hide (fun W => cutFull_none l2 W hl2l hc)
        have HCN := hide (show condL l = none by rw [HC.out]; unfold tagC; rw [hc])
        have HRET := hide (HNO.out HCN.out z1 0 (bytesOf (tagL [])))
        obtain ⟨r2, ok2, HQ0⟩ := cutPre_ex ⟨#[]⟩ 93
        have HQ := hide HQ0
        clear HQ0
        clear hc HC HCN HNO
        go_wp2_with fail
        refine (HF.out _).mono ?_
        rintro e w1 ⟨rfl, b1⟩
        have HX := hide (HX0.out.next b1)
        have HB := hide (HB0.out.trans (b1.mono HB0.out.size))
        obtain ⟨q0, k0⟩ := HX.out.2 0 _ rfl
        obtain ⟨q1, k1⟩ := HX.out.2 1 _ rfl
        obtain ⟨q2, k2⟩ := HX.out.2 2 _ rfl
        clear b1 HX HX0 HB0 HF
        go_wp2_with fail
        refine (HQ.out _).mono ?_
        rintro e w2 ⟨rfl, hw⟩
        subst hw
        go_wp2
        refine bodyPost_ret (v := .tuple #[.agg #[.bool z1, .int .i64 0, .string (bytesOf (tagL []))], .string r2, .bool false]) (by simp [results, Tryd.results31, go_sem, q0, q1, q2]) rfl ⟨HRET.out _, ((HB.out.setCell (Nat.le_refl _) _).setCell (Nat.le_refl _) _).setCell (Nat.le_refl _) _⟩
      | some p =>
        obtain ⟨m, r⟩ := p
        have HF := hide (fun W => cutFull_some l2 m r W hl2l hc)
        have HCN := hide (show condL l = if m = [] then none else if r.head? = some 93 then some (⟨z1, 0, bytesOf (tagL m)⟩, r.tail) else none by rw [HC.out]; unfold tagC; rw [hc])
        clear hc HC
        by_cases hm : m = []
        · rw [if_pos hm] at HCN
          rw [show decide (0 < m.length) = false by rw [hm]; rfl] at HF
          have HRET := hide (HNO.out HCN.out z1 0 (bytesOf (tagL m)))
          obtain ⟨r2, ok2, HQ0⟩ := cutPre_ex (bytesOf r) 93
          have HQ := hide HQ0
          clear HQ0
          clear HCN HNO hm
          go_wp2_with fail
          refine (HF.out _).mono ?_
          rintro e w1 ⟨rfl, b1⟩
          have HX := hide (HX0.out.next b1)
          have HB := hide (HB0.out.trans (b1.mono HB0.out.size))
          obtain ⟨q0, k0⟩ := HX.out.2 0 _ rfl
          obtain ⟨q1, k1⟩ := HX.out.2 1 _ rfl
          obtain ⟨q2, k2⟩ := HX.out.2 2 _ rfl
          clear b1 HX HX0 HB0 HF
          go_wp2_with fail
          refine (HQ.out _).mono ?_
          rintro e w2 ⟨rfl, hw⟩
          subst hw
          go_wp2
          refine bodyPost_ret (v := .tuple #[.agg #[.bool z1, .int .i64 0, .string (bytesOf (tagL m))], .string r2, .bool false]) (by simp [results, Tryd.results31, go_sem, q0, q1, q2]) rfl ⟨HRET.out _, ((HB.out.setCell (Nat.le_refl _) _).setCell (Nat.le_refl _) _).setCell (Nat.le_refl _) _⟩
        · rw [if_neg hm] at HCN
          rw [show decide (0 < m.length) = true by rw [decide_eq_true_eq]; exact List.length_pos_iff.2 hm] at HF
          by_cases h93 : r.head? = some 93
          · rw [if_pos h93] at HCN
            have HRET := hide (show CondI l (.returned (.tuple #[.agg #[.bool z1, .int .i64 0, .string (bytesOf (tagL m))], .string (bytesOf r.tail), .bool true])) by unfold CondI; rw [HCN.out])
            have HQ := hide (fun W => cutPre_yes h93 W)
            clear HCN HNO hm h93
            go_wp2_with fail
            refine (HF.out _).mono ?_
            rintro e w1 ⟨rfl, b1⟩
            have HX := hide (HX0.out.next b1)
            have HB := hide (HB0.out.trans (b1.mono HB0.out.size))
            obtain ⟨q0, k0⟩ := HX.out.2 0 _ rfl
            obtain ⟨q1, k1⟩ := HX.out.2 1 _ rfl
            obtain ⟨q2, k2⟩ := HX.out.2 2 _ rfl
            clear b1 HX HX0 HB0 HF
            go_wp2_with fail
            refine (HQ.out _).mono ?_
            rintro e w2 ⟨rfl, hw⟩
            subst hw
            go_wp2
            refine bodyPost_ret (v := .tuple #[.agg #[.bool z1, .int .i64 0, .string (bytesOf (tagL m))], .string (bytesOf r.tail), .bool true]) (by simp [results, Tryd.results31, go_sem, q0, q1, q2]) rfl ⟨HRET.out, ((HB.out.setCell (Nat.le_refl _) _).setCell (Nat.le_refl _) _).setCell (Nat.le_refl _) _⟩
          · rw [if_neg h93] at HCN
            have HRET := hide (HNO.out HCN.out z1 0 (bytesOf (tagL m)) (bytesOf r))
            have HQ := hide (fun W => cutPre_no h93 W)
            clear HCN HNO hm h93
            go_wp2_with fail
            refine (HF.out _).mono ?_
            rintro e w1 ⟨rfl, b1⟩
            have HX := hide (HX0.out.next b1)
            have HB := hide (HB0.out.trans (b1.mono HB0.out.size))
            obtain ⟨q0, k0⟩ := HX.out.2 0 _ rfl
            obtain ⟨q1, k1⟩ := HX.out.2 1 _ rfl
            obtain ⟨q2, k2⟩ := HX.out.2 2 _ rfl
            clear b1 HX HX0 HB0 HF
            go_wp2_with fail
            refine (HQ.out _).mono ?_
            rintro e w2 ⟨rfl, hw⟩
            subst hw
            go_wp2
            refine bodyPost_ret (v := .tuple #[.agg #[.bool z1, .int .i64 0, .string (bytesOf (tagL m))], .string (bytesOf r), .bool false]) (by simp [results, Tryd.results31, go_sem, q0, q1, q2]) rfl ⟨HRET.out, ((HB.out.setCell (Nat.le_refl _) _).setCell (Nat.le_refl _) _).setCell (Nat.le_refl _) _⟩
    · have HP := hide (fun W => cutPre_no h91 W)
      have HRET := hide (HNO.out (HEL2.out h91) z1 0)
      obtain ⟨t, r, ok, HF0⟩ := cutFull_any l1 (by omega)
      have HF := hide HF0
      obtain ⟨r2, ok2, HQ0⟩ := cutPre_ex r 93
      have HQ := hide HQ0
      clear HQ0
      clear HEL2 HTG2 HNO h91 HF0
      go_wp2_with fail
      refine (HP.out _).mono ?_
      rintro e w1 ⟨rfl, hw⟩
      subst hw
      clear HP
      go_wp2_with fail
      refine (HF.out _).mono ?_
      rintro e w1 ⟨rfl, b1⟩
      have HX := hide (HX0.out.next b1)
      have HB := hide (HB0.out.trans (b1.mono HB0.out.size))
      obtain ⟨q0, k0⟩ := HX.out.2 0 _ rfl
      obtain ⟨q1, k1⟩ := HX.out.2 1 _ rfl
      obtain ⟨q2, k2⟩ := HX.out.2 2 _ rfl
      clear b1 HX HX0 HB0 HF
      go_wp2_with fail
      refine (HQ.out _).mono ?_
      rintro e w2 ⟨rfl, hw⟩
      subst hw
      go_wp2
      refine bodyPost_ret (v := .tuple #[.agg #[.bool z1, .int .i64 0, .string (t)], .string r2, .bool false]) (by simp [results, Tryd.results31, go_sem, q0, q1, q2]) rfl ⟨HRET.out t r2, ((HB.out.setCell (Nat.le_refl _) _).setCell (Nat.le_refl _) _).setCell (Nat.le_refl _) _⟩
end Go.Proofs.YtmgikfeknmbpbaaDoor
namespace Go.Proofs.YtmgikfeknmbpbaaDoor
open Go.RowKit M
set_option linter.unusedVariables false

theorem infoCnI : (Tryd.prog.info? 48).map (fun i => (i.zero, i.size, i.bytes)) = some (some (.agg #[.bool false, .int .i64 0, .string { data := #[] }]), 3, 32) := by kernel_rfl
/-- How much is left to be read. -/
def moreI (m v : Value) : Nat := match m, v with
  | .bool true, .string s => s.size + 1
  | _, _ => 0
theorem moreI_next (q : Bool) (a b : List UInt8) (h : q = true → a.length < b.length) : moreI (.bool q) (.string (bytesOf a)) < moreI (.bool true) (.string (bytesOf b)) := by
  cases q
  · show 0 < (bytesOf b).size + 1; omega
  · have := h rfl
    show (bytesOf a).size + 1 < (bytesOf b).size + 1
    rw [bytesOf_size, bytesOf_size]
    omega
/-- On the way through one list, as the program goes. -/
def LIv (D : List UInt8) (acc : List Cn) (t : List UInt8) (mo : Bool) : Prop :=
  (mo = true → condsL D = (condsL t).map fun x => (acc ++ x.1, x.2)) ∧ (mo = false → condsL D = some (acc, t))
theorem LIv.start (D : List UInt8) : LIv D [] D true := by
  refine ⟨fun _ => ?_, fun e => (by cases e)⟩
  cases condsL D <;> rfl
theorem LIv.no {D t : List UInt8} {acc : List Cn} (h : LIv D acc t true) (hc : condL t = none) : condsL D = none := by
  rw [h.1 rfl, condsL_none hc]; rfl
theorem LIv.next {D t q : List UInt8} {acc : List Cn} {c : Cn} (h : LIv D acc t true) (hc : condL t = some (c, q)) (hq : q.head? = some 32) : LIv D (acc ++ [c]) q.tail true := by
  refine ⟨fun _ => ?_, fun e => (by cases e)⟩
  rw [h.1 rfl, condsL_next hc hq]
  cases condsL q.tail <;> simp
theorem LIv.last {D t q : List UInt8} {acc : List Cn} {c : Cn} (h : LIv D acc t true) (hc : condL t = some (c, q)) (hq : ¬ q.head? = some 32) : LIv D (acc ++ [c]) q false := by
  refine ⟨fun e => (by cases e), fun _ => ?_⟩
  rw [h.1 rfl, condsL_end hc hq]
  rfl
theorem LIv.full {l t : List UInt8} {acc : List Cn} (h : LIv l.tail acc t true) (ha : acc.length = 4) (h40 : l.head? = some 40) : listL l = none := by
  unfold listL
  rw [if_pos h40, h.1 rfl]
  cases hc : condsL t with
  | none => rfl
  | some x =>
    have := (condsL_len _ t (Nat.lt_succ_self _) _ _ hc).2
    show (if (acc ++ x.1).length ≤ 4 ∧ _ then _ else none) = none
    rw [if_neg]
    rw [List.length_append]
    omega
/-- What the reading of one list comes to. -/
def ListI (l : List UInt8) (B : Nat) (e : Ending) (w' : World) : Prop := match listL l with
  | none => ∃ (v : Value) (r : ByteArray), e = .returned (.tuple #[v, .string r, .bool false])
  | some (cs, q) => ∃ g n c : Nat, e = .returned (.tuple #[.slice (some ⟨g, 0, none⟩) n c, .string (bytesOf q), .bool true]) ∧ OwnG 48 3 ciC w' B (.slice (some ⟨g, 0, none⟩) n c) cs
theorem listI_no {l : List UInt8} (h : listL l = none) (B : Nat) (w' : World) (v : Value) (r : ByteArray) : ListI l B (.returned (.tuple #[v, .string r, .bool false])) w' := by
  unfold ListI
  rw [h]
  exact ⟨v, r, rfl⟩
theorem listI_yes {l t : List UInt8} {acc : List Cn} (h40 : l.head? = some 40) (h : LIv l.tail acc t false) (ha : acc.length ≤ 4) (h41 : t.head? = some 41) (B : Nat) (w' : World) (g n c : Nat) (ho : OwnG 48 3 ciC w' B (.slice (some ⟨g, 0, none⟩) n c) acc) :
    ListI l B (.returned (.tuple #[.slice (some ⟨g, 0, none⟩) n c, .string (bytesOf t.tail), .bool true])) w' := by
  have e : listL l = some (acc, t.tail) := by
    unfold listL
    rw [if_pos h40, h.2 rfl]
    show (if acc.length ≤ 4 ∧ t.head? = some 41 then some (acc, t.tail) else none) = _
    rw [if_pos ⟨ha, h41⟩]
  unfold ListI
  rw [e]
  exact ⟨g, n, c, rfl, ho⟩
theorem listL_not41 {l t : List UInt8} {acc : List Cn} (h40 : l.head? = some 40) (h : LIv l.tail acc t false) (h41 : ¬ t.head? = some 41) : listL l = none := by
  unfold listL
  rw [if_pos h40, h.2 rfl]
  show (if acc.length ≤ 4 ∧ t.head? = some 41 then some (acc, t.tail) else none) = _
  rw [if_neg (fun e => h41 e.2)]
theorem listL_no {l : List UInt8} (h40 : l.head? = some 40) (h : condsL l.tail = none) : listL l = none := by
  unfold listL
  rw [if_pos h40, h]

set_option maxRecDepth 100000 in
set_option maxHeartbeats 8000000 in
theorem cutList_any (l : List UInt8) (w : World) (hl : l.length ≤ 1048576) :
    Calls Tryd.prog 16 #[.string (bytesOf l)] w fun e w' => ListI l w.heap.size e w' ∧ Below w.heap.size w w' := by
  have HO := hide (OwnG.made (tE := 48) (K := 3) (cs := ciC) w w.heap.size (Nat.le_refl _))
  have HB0 := hide ((Below.refl w.heap.size w).alloc (Nat.le_refl _) (Obj.cells #[] 48))
  by_cases h40 : l.head? = some 40
  · have HP := hide (fun W => cutPre_yes h40 W)
    have HC := hide (fun t W (h : t.length ≤ 1048576) => cutCond_any t W h)
    have H40 := hide h40
    obtain ⟨D, hD⟩ : ∃ z, l.tail = z := ⟨_, rfl⟩
    have hDl : D.length ≤ 1048576 := by rw [← hD, List.length_tail]; omega
    have HD := hide hD
    rw [hD] at HP
    clear h40 hD
    go_enter Tryd.func16, Tryd.ntmps16
    go_wp2_with fail
    refine (HP.out _).mono ?_
    rintro e w1 ⟨rfl, hw⟩
    subst hw
    clear HP
    go_wp2
    go_loopw [0, 6, 7] (fun v v6 m wr => ∃ (t : List UInt8) (g n c : Nat) (acc : List Cn) (mo : Bool), v = .string (bytesOf t) ∧ v6 = .slice (some ⟨g, 0, none⟩) n c ∧ m = .bool mo ∧ n ≤ 4 ∧ t.length ≤ 1048576 ∧ Hid (n = acc.length) ∧ Hid (LIv D acc t mo) ∧ Hid (OwnG 48 3 ciC wr w1.heap.size (.slice (some ⟨g, 0, none⟩) n c) acc) ∧ Below w1.heap.size w1 wr) (fun v _ m _ => moreI m v)
    case atStart => exact ⟨D, _, _, _, [], true, rfl, rfl, rfl, by omega, hDl, rfl, LIv.start D, HO, HB0.out⟩
    case round =>
      obtain ⟨t, g, n, c, acc, mo, rfl, rfl, rfl, hn4, htl, HN, HI, HOW, hbe⟩ := hrel
      have HB := hide hbe
      clear hbe HO HB0
      cases mo
      · by_cases h41 : t.head? = some 41
        · have HQ := hide (fun W => cutPre_yes h41 W)
          have HRET := hide (listI_yes H40.out (by rw [HD.out]; exact HI.out) (by rw [← HN.out]; exact hn4) h41 w1.heap.size wr g n c HOW.out)
          clear h41
          go_wp2_with fail
          refine (HQ.out _).mono ?_
          rintro e w2 ⟨rfl, hw⟩
          subst hw
          go_wp2
          go_ret3
          exact ⟨HRET.out, HB.out⟩
        · have HQ := hide (fun W => cutPre_no h41 W)
          have HRET := hide (listI_no (listL_not41 H40.out (by rw [HD.out]; exact HI.out) h41) w1.heap.size wr)
          clear h41
          go_wp2_with fail
          refine (HQ.out _).mono ?_
          rintro e w2 ⟨rfl, hw⟩
          subst hw
          go_wp2
          go_ret3
          exact ⟨HRET.out _ _, HB.out⟩
      · have HQ := hide (HC.out t wr htl)
        go_wp2_with fail
        refine HQ.out.mono ?_
        rintro e w2 ⟨hret, b2⟩
        unfold CondI at hret
        have B2 := hide (HB.out.trans (b2.mono HB.out.size))
        have O2 := hide (HOW.out.next b2)
        clear b2 HQ HB HOW
        cases hc : condL t with
        | none =>
          rw [hc] at hret
          obtain ⟨x, r, rfl⟩ := hret
          have HRET := hide (fun W => listI_no (listL_no H40.out (by rw [HD.out]; exact HI.out.no hc)) w1.heap.size W)
          clear hc
          go_wp2
          go_ret3
          exact ⟨HRET.out _ _ _, B2.out.alloc B2.out.size _⟩
        | some p =>
          obtain ⟨x, q⟩ := p
          rw [hc] at hret
          subst hret
          have hql := condL_len hc
          by_cases h4 : n = 4
          · have HRET := hide (fun W => listI_no (LIv.full (l := l) (by rw [HD.out]; exact HI.out) (by rw [← HN.out]; exact h4) H40.out) w1.heap.size W)
            have h5 : ((n : Int) == 4) = true := by rw [h4]; rfl
            clear hc h4
            go_wp2
            go_ret3
            exact ⟨HRET.out _ _ _, B2.out.alloc B2.out.size _⟩
          · have h5 : ((n : Int) == 4) = false := by apply beq_eq_false_iff_ne.2; omega
            have hn3 : n ≤ 3 := by omega
            have bX := (Below.refl w2.heap.size w2).alloc (Nat.le_refl _) (Obj.cells #[.bool x.no, .int .i64 x.tk, .string x.tg] 48)
            have bY := bX.alloc (by simp) (Obj.cells #[.bool x.no, .int .i64 x.tk, .string x.tg] 48)
            have HO3 := hide (O2.out.next bY)
            have B3 := hide (B2.out.trans (bY.mono B2.out.size))
            have hz3 := B3.out.size
            have hln : acc.length + 1 ≤ 100000000000 := by have := HN.out; omega
            have HNN := hide (show acc.length + 1 = n + 1 by rw [← HN.out])
            by_cases h32 : q.head? = some 32
            · have HQ := hide (fun W => cutPre_yes h32 W)
              have HIN := hide (HI.out.next hc h32)
              have hqt : q.tail.length < t.length := by rw [List.length_tail]; omega
              clear hc h4 bX bY O2 h32
              go_wp2_with (at_builtin; refine wp_append_gen 36 Tryd.underlying36 (.agg #[.bool false, .int .i64 0, .string { data := #[] }]) 32 infoCnI rfl (by decide) (by decide) rfl _ _ rfl w1.heap.size _ acc rfl HO3.out ciC_len _ x rfl (fun i v hv => by match i with | 0 => (cases hv; simp) | 1 => (cases hv; simp) | 2 => (cases hv; simp) | i + 3 => cases hv) (ciC_one x) hln hz3 ?_)
              intro g9 n9 c9 w9 hn9 hO9 hb9 hg9 _
              have O9 := hide hO9
              have B9 := hide (B3.out.trans hb9)
              have HN9 := hide hn9
              have hn95 : n9 ≤ 4 := by have := HN.out; omega
              clear hO9 hb9 hg9 HO3 B3 hn9
              go_wp2_with fail
              refine (HQ.out _).mono ?_
              rintro e w10 ⟨rfl, hw⟩
              subst hw
              go_wp2
              go_roundw
              case rel => exact ⟨q.tail, g9, n9, c9, _, true, rfl, rfl, rfl, hn95, by omega, (by show n9 = _; rw [HN9.out, List.length_append]; rfl), HIN, O9, B9.out⟩
              case measure => exact moreI_next _ _ _ (fun _ => hqt)
            · have HQ := hide (fun W => cutPre_no h32 W)
              have HIN := hide (HI.out.last hc h32)
              clear hc h4 bX bY O2 h32
              go_wp2_with (at_builtin; refine wp_append_gen 36 Tryd.underlying36 (.agg #[.bool false, .int .i64 0, .string { data := #[] }]) 32 infoCnI rfl (by decide) (by decide) rfl _ _ rfl w1.heap.size _ acc rfl HO3.out ciC_len _ x rfl (fun i v hv => by match i with | 0 => (cases hv; simp) | 1 => (cases hv; simp) | 2 => (cases hv; simp) | i + 3 => cases hv) (ciC_one x) hln hz3 ?_)
              intro g9 n9 c9 w9 hn9 hO9 hb9 hg9 _
              have O9 := hide hO9
              have B9 := hide (B3.out.trans hb9)
              have HN9 := hide hn9
              have hn95 : n9 ≤ 4 := by have := HN.out; omega
              clear hO9 hb9 hg9 HO3 B3 hn9
              go_wp2_with fail
              refine (HQ.out _).mono ?_
              rintro e w10 ⟨rfl, hw⟩
              subst hw
              go_wp2
              go_roundw
              case rel => exact ⟨q, g9, n9, c9, _, false, rfl, rfl, rfl, hn95, by omega, (by show n9 = _; rw [HN9.out, List.length_append]; rfl), HIN, O9, B9.out⟩
              case measure => exact moreI_next _ _ _ (fun e => (by cases e))
  · have HP := hide (fun W => cutPre_no h40 W)
    have HRET := hide (fun W => listI_no (l := l) (by unfold listL; rw [if_neg h40]) w.heap.size W)
    obtain ⟨r2, ok2, HQ0⟩ := cutPre_ex (bytesOf l) 41
    have HQ := hide HQ0
    clear HQ0 h40
    go_enter Tryd.func16, Tryd.ntmps16
    go_wp2_with fail
    refine (HP.out _).mono ?_
    rintro e w1 ⟨rfl, hw⟩
    subst hw
    clear HP
    go_wp2
    go_loopw [0, 7] (fun v m wr => v = .string (bytesOf l) ∧ m = .bool false ∧ wr = w1.alloc (Obj.cells #[] 48)) (fun _ _ _ => 0)
    case atStart => exact ⟨rfl, rfl, rfl⟩
    case round =>
      obtain ⟨rfl, rfl, hw⟩ := hrel
      subst hw
      go_wp2_with fail
      refine (HQ.out _).mono ?_
      rintro e w2 ⟨rfl, hw⟩
      subst hw
      go_wp2
      go_ret3
      exact ⟨HRET.out _ _ _, HB0.out⟩
end Go.Proofs.YtmgikfeknmbpbaaDoor
namespace Go.Proofs.YtmgikfeknmbpbaaDoor
open Go.RowKit M
set_option linter.unusedVariables false

theorem infoSlI : (Tryd.prog.info? 36).map (fun i => (i.zero, i.size, i.bytes)) = some (some (.slice none 0 0), 1, 24) := by kernel_rfl
theorem trimL32 (l : List UInt8) (w : World) :
    Calls Tryd.prog 17 #[.string (bytesOf l), .string ⟨#[32]⟩] w fun e w' => e = .returned (.string (bytesOf (blk l))) ∧ w' = w :=
  Tryd.strings_TrimLeft_one (bytesOf l) 32 (by decide) w
/-- On the way through several lists, as the program goes. -/
def PIv (l : List UInt8) (ls : List (List Cn)) (t : List UInt8) (mo : Bool) : Prop :=
  (mo = true → listsL l = (listsL t).map (ls ++ ·)) ∧ (mo = false → listsL l = some ls)
theorem PIv.start (l : List UInt8) : PIv l [] l true := by
  refine ⟨fun _ => ?_, fun e => (by cases e)⟩
  cases listsL l <;> rfl
theorem PIv.no {l t : List UInt8} {ls : List (List Cn)} (h : PIv l ls t true) (hc : listL t = none) : ifL l = none := by
  unfold ifL
  rw [h.1 rfl, listsL_none hc]
  rfl
theorem PIv.next {l t q : List UInt8} {ls : List (List Cn)} {cs : List Cn} (h : PIv l ls t true) (hc : listL t = some (cs, q)) (hq : ¬ q = []) : PIv l (ls ++ [cs]) (blk q) true := by
  refine ⟨fun _ => ?_, fun e => (by cases e)⟩
  rw [h.1 rfl, listsL_next hc hq]
  cases listsL (blk q) <;> simp
theorem PIv.last {l t t' : List UInt8} {ls : List (List Cn)} {cs : List Cn} (h : PIv l ls t true) (hc : listL t = some (cs, [])) : PIv l (ls ++ [cs]) t' false := by
  refine ⟨fun e => (by cases e), fun _ => ?_⟩
  rw [h.1 rfl, listsL_end hc]
  rfl
theorem PIv.full {l t : List UInt8} {ls : List (List Cn)} (h : PIv l ls t true) (ha : ls.length = 4) : ifL l = none := by
  unfold ifL
  rw [h.1 rfl]
  cases hc : listsL t with
  | none => rfl
  | some x =>
    have := (listsL_ok _ t (Nat.lt_succ_self _) _ hc).1
    show (if (ls ++ x).length ≤ 4 then some (ls ++ x) else none) = none
    rw [if_neg]
    rw [List.length_append]
    omega
theorem PIv.done {l t : List UInt8} {ls : List (List Cn)} (h : PIv l ls t false) (ha : ls.length ≤ 4) : ifL l = some ls := by
  unfold ifL
  rw [h.2 rfl]
  show (if ls.length ≤ 4 then some ls else none) = some ls
  rw [if_pos ha]
/-- What is answered. -/
def IfI (l : List UInt8) (B : Nat) (e : Ending) (w' : World) : Prop :=
  ∃ r : Value, e = .returned (.tuple #[r, .bool (ifL l).isSome]) ∧ Own w' r (.l (((ifL l).getD []).map dCs)) (IvG B w'.heap.size)
theorem ifI_no {l : List UInt8} (h : ifL l = none) (B : Nat) (W : World) (hB : B ≤ W.heap.size) : IfI l B (.returned (.tuple #[.slice (some ⟨W.heap.size, 0, none⟩) 0 0, .bool false])) (W.alloc (Obj.cells #[] 36)) :=
  ⟨_, by rw [h]; rfl, by rw [h]; exact (RowsO.made 36 W B hB).done⟩
theorem emptyB (l : List UInt8) : (bytesOf l).toList.isEmpty = decide (l = []) := by
  rw [ByteArray.toList_eq]
  show l.toArray.toList.isEmpty = decide (l = [])
  cases l <;> simp

set_option maxRecDepth 100000 in
set_option maxHeartbeats 16000000 in
theorem parseIf_any (l : List UInt8) (w : World) (hl : l.length ≤ 1048576) :
    Calls Tryd.prog 6 #[.string (bytesOf l)] w fun e w' => IfI l w.heap.size e w' ∧ Below w.heap.size w w' := by
  have HO := hide (RowsO.made 36 w w.heap.size (Nat.le_refl _))
  have HB0 := hide ((Below.refl w.heap.size w).alloc (Nat.le_refl _) (Obj.cells #[] 36))
  have HC := hide (fun t W (h : t.length ≤ 1048576) => cutList_any t W h)
  have HTR := hide (fun t W => trimL32 t W)
  go_enter Tryd.func6, Tryd.ntmps6
  go_wp2
  go_loopw [0, 4, 5] (fun v v4 m wr => ∃ (t : List UInt8) (g n c H : Nat) (ss : List Sl) (ls : List (List Cn)) (mo : Bool), v = .string (bytesOf t) ∧ v4 = .slice (some ⟨g, 0, none⟩) n c ∧ m = .bool mo ∧ n ≤ 4 ∧ t.length ≤ 1048576 ∧ Hid (n = ls.length) ∧ Hid (PIv l ls t mo) ∧ Hid (RowsO 36 wr w.heap.size g n c H ss ls) ∧ Below w.heap.size w wr) (fun v _ m _ => moreI m v)
  case atStart => exact ⟨l, _, _, _, _, [], [], true, rfl, rfl, rfl, by omega, hl, rfl, PIv.start l, HO, HB0.out⟩
  case round =>
    obtain ⟨t, g, n, c, H, ss, ls, mo, rfl, rfl, rfl, hn4, htl, HN, HI, HOW, hbe⟩ := hrel
    have HB := hide hbe
    clear hbe HO HB0
    cases mo
    · have HRET := hide (show IfI l w.heap.size (.returned (.tuple #[.slice (some ⟨g, 0, none⟩) n c, .bool true])) wr from ⟨_, by rw [HI.out.done (by rw [← HN.out]; exact hn4)]; rfl, by rw [HI.out.done (by rw [← HN.out]; exact hn4)]; exact HOW.out.done⟩)
      go_wp2
      go_ret2
      exact ⟨HRET.out, HB.out⟩
    · have HQ := hide (HC.out t wr htl)
      go_wp2_with fail
      refine HQ.out.mono ?_
      rintro e w2 ⟨hret, b2⟩
      unfold ListI at hret
      have B2 := hide (HB.out.trans (b2.mono HB.out.size))
      have O2 := hide (HOW.out.next b2)
      have hz2 := B2.out.size
      have HTOP := hide HOW.out.top
      have hb2 := b2.size
      clear b2 HQ HB HOW
      cases hc : listL t with
      | none =>
        rw [hc] at hret
        obtain ⟨v, r, rfl⟩ := hret
        have HRET := hide (ifI_no (HI.out.no hc) w.heap.size w2 hz2)
        clear hc
        go_wp2
        go_ret2
        exact ⟨HRET.out, B2.out.alloc B2.out.size _⟩
      | some p =>
        obtain ⟨cs, q⟩ := p
        rw [hc] at hret
        obtain ⟨g2, n2, c3, rfl, ho⟩ := hret
        have hql := listL_len hc
        by_cases h4 : n = 4
        · have HRET := hide (ifI_no (HI.out.full (by rw [← HN.out]; exact h4)) w.heap.size w2 hz2)
          have h5 : ((n : Int) == 4) = true := by rw [h4]; rfl
          clear hc h4
          go_wp2
          go_ret2
          exact ⟨HRET.out, B2.out.alloc B2.out.size _⟩
        · have h5 : ((n : Int) == 4) = false := by apply beq_eq_false_iff_ne.2; omega
          have hn3 : n ≤ 3 := by omega
          have bY := (Below.refl w2.heap.size w2).alloc (Nat.le_refl _) (Obj.cells #[.slice (some ⟨g2, 0, none⟩) n2 c3] 36)
          have hr2 := ho.row ciC_len
          have HNL := hide ((own_of_conds (ho.next bY)).wide (T := IvG wr.heap.size w2.heap.size) (fun y hy => by subst hy; exact ⟨hr2.2.2.2.1, hr2.2.2.2.2.1⟩))
          have P3 := hide (O2.out.next bY)
          have HO3 := hide (P3.out.own)
          have B3 := hide (B2.out.trans (bY.mono B2.out.size))
          have hz3 := bY.size
          have hz4 := B3.out.size
          have hln : ss.length + 1 ≤ 100000000000 := by have h1 := P3.out.len; have h2 := HN.out; omega
          have HTT := hide (fun W => trimL32 q W)
          have hE0 := emptyB q
          have hbq := blk_len q
          have HIN := hide (fun (hq : ¬ q = []) => HI.out.next hc hq)
          have HIL := hide (fun (hq : q = []) => HI.out.last (t' := blk q) (by rw [← hq]; exact hc))
          clear hc h4 bY O2 ho hr2
          go_wp2_with (at_builtin; refine wp_append_gen 22 Tryd.underlying22 (.slice none 0 0) 24 infoSlI rfl (by decide) (by decide) rfl _ _ rfl w.heap.size _ ss rfl HO3.out ciS_len _ (⟨g2, n2, c3⟩ : Sl) rfl (fun i v hv => by match i with | 0 => (cases hv; simp [Sl.v]) | i + 1 => cases hv) (ciS_one _) hln hz4 ?_)
          intro g9 n9 c9 w9 hn9 hO9 hb9 hg9 hat
          have B9 := hide (B3.out.trans hb9)
          have HNX := hide (P3.out.snoc hO9 hg9 (by rcases hat with e2 | e2; exact .inl (Option.some.inj e2).symm; exact .inr (by rw [e2]; simp)) wr.heap.size w2.heap.size HNL.out HTOP.out hz3)
          have HN9 := hide (show n9 = (ls ++ [cs]).length from HNX.out.num.1)
          have hn95 : n9 ≤ 4 := by rw [HN9.out, List.length_append, ← HN.out]; show n + 1 ≤ 4; omega
          clear hO9 hb9 hg9 HO3 B3 hn9 hat P3 HNL HTOP hln
          by_cases hq : q = []
          · have HI9 := hide (HIL.out hq)
            rw [decide_eq_true hq] at hE0
            clear hq
            go_wp2_with fail
            refine (HTT.out _).mono ?_
            rintro e w10 ⟨rfl, hw⟩
            subst hw
            go_wp2
            go_roundw
            case rel => exact ⟨blk q, g9, n9, c9, w10.heap.size, _, _, false, rfl, rfl, rfl, hn95, by omega, HN9, HI9, HNX, B9.out⟩
            case measure => exact moreI_next _ _ _ (fun e => (by cases e))
          · have HI9 := hide (HIN.out hq)
            rw [decide_eq_false hq] at hE0
            clear hq
            go_wp2_with fail
            refine (HTT.out _).mono ?_
            rintro e w10 ⟨rfl, hw⟩
            subst hw
            go_wp2
            go_roundw
            case rel => exact ⟨blk q, g9, n9, c9, w10.heap.size, _, _, true, rfl, rfl, rfl, hn95, by omega, HN9, HI9, HNX, B9.out⟩
            case measure => exact moreI_next _ _ _ (fun _ => by omega)
end Go.Proofs.YtmgikfeknmbpbaaDoor
namespace Go.Proofs.YtmgikfeknmbpbaaDoor
open Go.RowKit M
set_option linter.unusedVariables false

theorem bytes_back (s : ByteArray) : bytesOf s.data.toList = s := ByteArray.ext (by simp [bytesOf])
/-- What is read, and whether. -/
def ifLs (s : ByteArray) : List (List Cn) := (ifL s.data.toList).getD []
theorem specParseIf_gen (s : ByteArray) (W : World) (hs : s.size ≤ 67108864) :
    Calls Tryd.prog 5 #[.string s] W fun e w' => (∃ r : Value, e = .returned (.tuple #[r, .bool (ifL s.data.toList).isSome]) ∧ View w' w'.heap.size r (.l ((ifLs s).map dCs))) ∧ Below W.heap.size W w' := by
  refine (specParseIf_any s W hs).mono ?_
  rintro e w' ⟨⟨r, rfl, ho⟩, hb⟩
  exact ⟨⟨r, rfl, ho.vw (Nat.le_refl _)⟩, hb⟩
theorem parseIf_gen (s : ByteArray) (W : World) (hs : s.size ≤ 1048576) :
    Calls Tryd.prog 6 #[.string s] W fun e w' => (∃ r : Value, e = .returned (.tuple #[r, .bool (ifL s.data.toList).isSome]) ∧ Own w' r (.l ((ifLs s).map dCs)) (IvG W.heap.size w'.heap.size)) ∧ Below W.heap.size W w' := by
  have h := parseIf_any s.data.toList W (by rw [Array.length_toList]; exact hs)
  rw [bytes_back] at h
  exact h
theorem ifLs_ok (s : ByteArray) : (ifLs s).length ≤ 4 ∧ ∀ cs ∈ ifLs s, cs.length ≤ 4 := by
  unfold ifLs
  cases h : ifL s.data.toList with
  | none => exact ⟨by simp, fun cs hcs => by cases hcs⟩
  | some ls => exact ⟨(ifL_ok h).2.1, fun cs hcs => ((ifL_ok h).2.2 cs hcs).2.1⟩
theorem cnt_dCn (l : List Cn) : cntRs (l.map dCn) = 3 * l.length := cntRs_map dCn 3 (fun _ => by simp [dCn, cntR, cntF]) l
theorem cnt_dCs (l : List (List Cn)) (n : Nat) (h : ∀ cs ∈ l, cs.length ≤ n) : cntRs (l.map dCs) ≤ 3 * n * l.length := by
  induction l with
  | nil => simp [cntRs]
  | cons x r ih =>
    rw [List.map_cons, cntRs_cons, List.length_cons, Nat.mul_add]
    have h1 := ih (fun cs hcs => h cs (List.mem_cons_of_mem _ hcs))
    have h2 : cntR (dCs x) = 3 * x.length := by simp [dCs, cntR, cntF, cnt_dCn]
    have h3 := h x (List.mem_cons_self ..)
    have h4 : 3 * x.length ≤ 3 * n := Nat.mul_le_mul_left 3 h3
    omega
theorem ifLs_cnt (s : ByteArray) : cntRs ((ifLs s).map dCs) ≤ 12582912 := by
  have h := cnt_dCs (ifLs s) 4 (ifLs_ok s).2
  have := (ifLs_ok s).1
  omega
end Go.Proofs.YtmgikfeknmbpbaaDoor
namespace Go.Proofs.YtmgikfeknmbpbaaDoor
open Go.RowKit M
set_option linter.unusedVariables false

theorem digit_nat (m : Nat) : ((dg m).toNat : Int) = 48 + (m : Int) % 10 := by
  unfold dg
  rw [UInt8.toNat_ofNat']
  omega

theorem conv_mark (w : World) (c : UInt8) : (convert 74 9 (.slice (some ⟨w.heap.size, 0, none⟩) 1 1)).run Tryd.prog (w.alloc (.cells #[.int .u8 c.toNat] 5)) = .ok (.string (bytesOf [c])) (w.alloc (.cells #[.int .u8 c.toNat] 5)) := by
  refine run_convert_bytes_back _ 74 9 5 _ 1 [c] Tryd.underlying74 Tryd.underlying5 Tryd.underlying9 ?_
  intro j hj
  have hj0 : j = 0 := by simp at hj; exact hj
  subst hj0
  simp [Addr.add]

set_option maxRecDepth 100000 in
set_option maxHeartbeats 1000000 in
theorem markText_any (k : Nat) (h1 : 1 ≤ k) (h2 : k ≤ 100000000) (w : World) :
    Calls Tryd.prog 37 #[.int .i64 k] w fun e w' => e = .returned (.string (mt k)) ∧ Below w.heap.size w w' := by
  have hk0 : ¬ k = 0 := by omega
  go_enter Tryd.func37, Tryd.ntmps37
  go_wp2
  go_loopw [0, 3] (fun kv ov wr => ∃ (m : Nat) (acc : List UInt8), kv = .int .i64 m ∧ ov = .string (bytesOf acc) ∧ mtL k = mtL m ++ acc ∧ acc.length + m ≤ k ∧ Below w.heap.size w wr) (fun kv _ _ => (intOf kv).toNat)
  case atStart => exact ⟨k, [], rfl, rfl, by simp, by simp, Below.refl _ _⟩
  case round =>
    obtain ⟨m, acc, rfl, rfl, hm, hle, hbe⟩ := hrel
    have HM : Hid (mtL k = mtL m ++ acc) := hm
    clear hm
    have hz : (bytesOf acc).size ≤ 100000000 := by rw [bytesOf_size]; omega
    by_cases h0 : 0 < m
    · have HS : Hid (mtL m = mtL (m / 10) ++ [dg m]) := mtL_step m h0
      have hcv := conv_mark wr (dg m)
      rw [digit_nat] at hcv
      have h0' : (0 : Int) < m := by omega
      have hz1 : (bytesOf [dg m]).size = 1 := by rw [bytesOf_size]; rfl
      have HD : Hid ((m : Int) / 10 = ((m / 10 : Nat) : Int)) := by show (m : Int) / 10 = ((m / 10 : Nat) : Int); omega
      have hd10 : m / 10 < m := by omega
      go_wp2
      go_roundw
      case rel => exact ⟨m / 10, [dg m] ++ acc, by rw [HD.out], by rw [← bytesOf_append], by rw [HM.out, HS.out, List.append_assoc], by simp; omega, hbe.alloc hbe.size _⟩
      case measure => simp [intOf]; omega
    · have hm0 : m = 0 := by omega
      subst hm0
      have HM2 : Hid (mtL k = acc) := by show mtL k = acc; rw [HM.out, mtL_zero]; rfl
      go_wp2
      go_ret
      refine ⟨?_, hbe⟩
      unfold mt
      rw [HM2.out]
      show Ending.returned (.string (bytesOf [109] ++ bytesOf acc)) = _
      rw [bytesOf_append]; rfl
end Go.Proofs.YtmgikfeknmbpbaaDoor
namespace Go.Proofs.YtmgikfeknmbpbaaDoor
open Go.RowKit M
set_option linter.unusedVariables false

set_option maxRecDepth 100000 in
set_option maxHeartbeats 4000000 in
theorem markCondS_gen (l : List Cn) (k0 : Nat) (v : Value) (S : Nat → Prop) (w : World) (h : Own w v (.l (l.map dCn)) S) (hk1 : 1 ≤ k0) (hk : k0 + cntRs (l.map dCn) ≤ 90000000) :
    Calls Tryd.prog 19 #[v, .int .i64 k0] w fun e w' => e = .returned (.int .i64 ((k0 + cntRs (l.map dCn) : Nat) : Int)) ∧ Own w' v (mkF k0 (.l (l.map dCn))) S ∧ Turn S w w' := by
  obtain ⟨a, cap, rfl, hl, hm, hst⟩ := h.rows 3 (fun _ => rfl)
  have HST := hide (hst.mid0 (k0 := k0))
  have HLM := hide (And.intro hl hm)
  have HKB := hide hk
  have hn : l.length ≤ 90000000 := by have := cnt_lenF dCn (fun x => by simp [dCn, cntR, cntF]; try omega) l; omega
  have hka := kAtF_all dCn k0 l
  have HKA := hide hka
  have hk00 := kAtF_zero dCn k0 l
  clear h hst hl hm hk hka
  go_enter Tryd.func19, Tryd.ntmps19
  go_wp2
  go_loopw [1, 5] (fun kv i wr => ∃ j K : Nat, j ≤ l.length ∧ i = .int .i64 j ∧ kv = .int .i64 K ∧ Hid (K = kAtF dCn k0 l j) ∧ Hid (OwnSt wr a l.length cap 3 (midF dCn k0 l j) S) ∧ Turn S w wr) (fun _ i _ => l.length - (intOf i).toNat)
  case atStart => exact ⟨0, k0, Nat.zero_le _, rfl, rfl, hk00.symm, HST, Turn.refl _ _⟩
  case round =>
    obtain ⟨j, K, hj, rfl, rfl, hK, hR, ht⟩ := hrel
    by_cases hlt : j < l.length
    · obtain ⟨b, o, C, Sf, rfl, hG⟩ := hR.out.at (by omega)
      have hG := hG.start hlt
      have hN := kAtF_next dCn k0 l j hlt
      have hle := (kAtF_le dCn k0 l (j + 1)).2
      have hle0 := (kAtF_le dCn k0 l j).1
      obtain ⟨x, hx⟩ : ∃ x, l[j] = x := ⟨_, rfl⟩
      rw [hx] at hG hN
      rw [hN] at hle
      rw [← hK.out] at hN hle hle0
      have HX := hide hx
      clear hx
      have hsum : cntR (dCn x) = 1 + 1 + 1 := by simp [dCn, cntR, cntF]
      rw [hsum] at hN hle
      have hle2 := Nat.le_trans hle HKB.out
      have HNX := hide hN
      have hK1 : 1 ≤ K := Nat.le_trans hk1 hle0
      clear hle hle0 hsum hN
      obtain ⟨c0, z0⟩ := hG.hc j 0 hlt (by decide)
      simp only [Nat.add_zero] at c0 z0
      obtain ⟨c1, z1⟩ := hG.hc j 1 hlt (by decide)
      obtain ⟨c2, z2⟩ := hG.hc j 2 hlt (by decide)
      obtain ⟨C1, hG1, e1⟩ := hG.set hlt (i := 0) (by decide) (.bool (((K : Int)) % 3 == 0))
      have t1 := ht.trans (Turn.set (S := S) wr ⟨b, o + j * 3 + 0, none⟩ (.bool (((K : Int)) % 3 == 0)) hG1.hS)
      clear hG ht
      obtain ⟨C2, hG2, e2⟩ := hG1.set hlt (i := 1) (by decide) (.int .i64 ((K : Int) + 1))
      have t2 := t1.trans (Turn.set (S := S) (wr.setCell ⟨b, o + j * 3 + 0, none⟩ (.bool (((K : Int)) % 3 == 0))) ⟨b, o + j * 3 + 1, none⟩ (.int .i64 ((K : Int) + 1)) hG2.hS)
      clear hG1 t1
      have HQ2 := hide (show ∀ W, _ from fun W => markText_any (K + 2) (by omega) (by omega) W)
      rw [show ((K + 2 : Nat) : Int) = (K : Int) + 1 + 1 from by omega] at HQ2
      have hGk := hide hG2
      have htk := hide t2
      clear hG2 t2
      go_wp2_with fail
      refine (HQ2.out _).mono ?_
      rintro e w1 ⟨rfl, b1⟩
      have hGw1 := hGk.out.below b1
      have tw1 := htk.out.trans (Turn.of_below b1)
      clear hGk htk HQ2 b1 c0 z0 c1 z1 c2 z2
      obtain ⟨c2, z2⟩ := hGw1.hc j 2 hlt (by decide)
      obtain ⟨C3, hG3, e3⟩ := hGw1.set hlt (i := 2) (by decide) (.string (mt (K + 2)))
      have t3 := tw1.trans (Turn.set (S := S) w1 ⟨b, o + j * 3 + 2, none⟩ (.string (mt (K + 2))) hG3.hS)
      clear hGw1 tw1
      have HG := hide hG3
      have HT := hide t3
      clear hG3 t3
      go_wp2
      go_roundw
      case rel =>
        refine ⟨j + 1, K + 3, by omega, by go_num, by first | go_num | (congr 1; omega), ?_, .inr ⟨b, o, _, _, rfl, RowG.close HG.out hlt ?_⟩, HT.out⟩
        · have := HNX.out; show _ = _; omega
        · rw [HX.out, ← hK.out]
          simp [dCn, mkR, mkF, mkV, mkI, cntF]
          try omega
      case measure => simp [intOf]; omega
    · have hjn : j = l.length := by omega
      subst hjn
      have hKK := hK.out
      rw [HKA.out] at hKK
      subst hKK
      go_wp2
      go_ret
      exact ⟨rfl, hR.out.marked HLM.out.1 HLM.out.2, ht⟩
end Go.Proofs.YtmgikfeknmbpbaaDoor
namespace Go.Proofs.YtmgikfeknmbpbaaDoor
open Go.RowKit M
set_option linter.unusedVariables false

set_option maxRecDepth 100000 in
set_option maxHeartbeats 4000000 in
theorem markCondSS_gen (l : List (List Cn)) (k0 : Nat) (v : Value) (S : Nat → Prop) (w : World) (h : Own w v (.l (l.map dCs)) S) (hk1 : 1 ≤ k0) (hk : k0 + cntRs (l.map dCs) ≤ 90000000) (hn : l.length ≤ 90000000) :
    Calls Tryd.prog 8 #[v, .int .i64 k0] w fun e w' => e = .returned (.int .i64 ((k0 + cntRs (l.map dCs) : Nat) : Int)) ∧ Own w' v (mkF k0 (.l (l.map dCs))) S ∧ Turn S w w' := by
  obtain ⟨a, cap, rfl, hl, hm, hst⟩ := h.rows 1 (fun _ => rfl)
  have HST := hide (hst.mid0 (k0 := k0))
  have HLM := hide (And.intro hl hm)
  have HKB := hide hk
  have hka := kAtF_all dCs k0 l
  have HKA := hide hka
  have hk00 := kAtF_zero dCs k0 l
  clear h hst hl hm hk hka
  go_enter Tryd.func8, Tryd.ntmps8
  go_wp2
  go_loopw [1, 5] (fun kv i wr => ∃ j K : Nat, j ≤ l.length ∧ i = .int .i64 j ∧ kv = .int .i64 K ∧ Hid (K = kAtF dCs k0 l j) ∧ Hid (OwnSt wr a l.length cap 1 (midF dCs k0 l j) S) ∧ Turn S w wr) (fun _ i _ => l.length - (intOf i).toNat)
  case atStart => exact ⟨0, k0, Nat.zero_le _, rfl, rfl, hk00.symm, HST, Turn.refl _ _⟩
  case round =>
    obtain ⟨j, K, hj, rfl, rfl, hK, hR, ht⟩ := hrel
    by_cases hlt : j < l.length
    · obtain ⟨b, o, C, Sf, rfl, hG⟩ := hR.out.at (by omega)
      have hG := hG.start hlt
      have hN := kAtF_next dCs k0 l j hlt
      have hle := (kAtF_le dCs k0 l (j + 1)).2
      have hle0 := (kAtF_le dCs k0 l j).1
      obtain ⟨x, hx⟩ : ∃ x, l[j] = x := ⟨_, rfl⟩
      rw [hx] at hG hN
      rw [hN] at hle
      rw [← hK.out] at hN hle hle0
      have HX := hide hx
      clear hx
      have hsum : cntR (dCs x) = cntRs (x.map dCn) := by simp [dCs, cntR, cntF]
      rw [hsum] at hN hle
      have hle2 := Nat.le_trans hle HKB.out
      have HNX := hide hN
      have hK1 : 1 ≤ K := Nat.le_trans hk1 hle0
      clear hle hle0 hsum hN
      obtain ⟨c0, z0⟩ := hG.hc j 0 hlt (by decide)
      simp only [Nat.mul_one, Nat.add_zero] at c0 z0
      have hO := hG.leaf hlt 0 (.l (x.map dCn)) rfl
      have HQ0 := hide (markCondS_gen (x) (K) _ _ _ hO (by omega) (by omega))
      obtain ⟨M0, hM0⟩ : ∃ M, K + cntRs (x.map dCn) = M := ⟨_, rfl⟩
      rw [hM0] at HQ0
      have hGk := hide hG
      have htk := hide ht
      have HM0 := hide hM0
      have hbM0 : M0 ≤ 90000000 ∧ 1 ≤ M0 := by omega
      clear hO hG ht hM0
      go_wp2_with fail
      refine HQ0.out.mono ?_
      rintro e w1 ⟨rfl, o1, tt1⟩
      have hGw1 := hGk.out.turn hlt (i := 0) (by decide) tt1 o1
      have tw1 := htk.out.trans (tt1.wide (fun y hy => (hGk.out.hs j 0 y hy).1))
      clear hGk htk HQ0 tt1 o1 c0 z0
      have HG := hide hGw1
      have HT := hide tw1
      clear hGw1 tw1
      go_wp2
      go_roundw
      case rel =>
        refine ⟨j + 1, M0, by omega, by go_num, by first | go_num | (congr 1; omega), ?_, .inr ⟨b, o, _, _, rfl, RowG.close HG.out hlt ?_⟩, HT.out⟩
        · have := HNX.out; have := HM0.out; show _ = _; omega
        · rw [HX.out, ← hK.out]
          simp [dCs, mkR, mkF]
      case measure => simp [intOf]; omega
    · have hjn : j = l.length := by omega
      subst hjn
      have hKK := hK.out
      rw [HKA.out] at hKK
      subst hKK
      go_wp2
      go_ret
      exact ⟨rfl, hR.out.marked HLM.out.1 HLM.out.2, ht⟩
end Go.Proofs.YtmgikfeknmbpbaaDoor
namespace Go.Proofs.YtmgikfeknmbpbaaDoor
open Go.RowKit M
set_option linter.unusedVariables false

set_option maxRecDepth 100000 in
set_option maxHeartbeats 4000000 in
theorem heldCondS_gen (l : List Cn) (k0 : Nat) (v : Value) (B : Nat) (w : World) (h : View w B v (mkF k0 (.l (l.map dCn)))) (hB : B ≤ w.heap.size) (hk1 : 1 ≤ k0) (hk : k0 + cntRs (l.map dCn) ≤ 90000000) :
    Calls Tryd.prog 20 #[v, .int .i64 k0] w fun e w' => e = .returned (.int .i64 ((k0 + cntRs (l.map dCn) : Nat) : Int)) ∧ Below w.heap.size w w' := by
  obtain ⟨a, cap, rfl, hl, hm, hat⟩ := h.marked 3 (fun _ => rfl)
  have HAT := hide hat
  have HKB := hide hk
  have hn : l.length ≤ 90000000 := by have := cnt_lenF dCn (fun x => by simp [dCn, cntR, cntF]; try omega) l; omega
  have hka := kAtF_all dCn k0 l
  have HKA := hide hka
  have hk00 := kAtF_zero dCn k0 l
  clear h hat hl hm hk hka
  go_enter Tryd.func20, Tryd.ntmps20
  go_wp2
  go_loopw [1, 5] (fun kv i wr => ∃ j K : Nat, j ≤ l.length ∧ i = .int .i64 j ∧ kv = .int .i64 K ∧ Hid (K = kAtF dCn k0 l j) ∧ Below w.heap.size w wr) (fun _ i _ => l.length - (intOf i).toNat)
  case atStart => exact ⟨0, k0, Nat.zero_le _, rfl, rfl, hk00.symm, Below.refl _ _⟩
  case round =>
    obtain ⟨j, K, hj, rfl, rfl, hK, hbe⟩ := hrel
    by_cases hlt : j < l.length
    · obtain ⟨b, o, C, rfl, hb, hc⟩ := HAT.out (by omega)
      have hcj := hc j hlt
      have hN := kAtF_next dCn k0 l j hlt
      have hle := (kAtF_le dCn k0 l (j + 1)).2
      have hle0 := (kAtF_le dCn k0 l j).1
      have hbw : b < w.heap.size := Nat.lt_of_lt_of_le hb hB
      have hi0 : (0 : Int) ≤ (j : Int) := by omega
      have hi1 : (j : Int) < (l.length : Int) := by omega
      obtain ⟨x, hx⟩ : ∃ x, l[j] = x := ⟨_, rfl⟩
      rw [hx] at hcj hN
      rw [hN] at hle
      rw [← hK.out] at hcj hN hle hle0
      clear hx hc
      have hsum : cntR (dCn x) = 1 + 1 + 1 := by simp [dCn, cntR, cntF]
      rw [hsum] at hN hle
      have hle2 := Nat.le_trans hle HKB.out
      have HNX := hide hN
      have hK1 : 1 ≤ K := Nat.le_trans hk1 hle0
      clear hle hle0 hsum hN
      have q0 := hcj 0 (.c (.bool (((K : Nat) : Int) % 3 == 0))) rfl
      have u0 : w.cell? ⟨b, o + j * 3, none⟩ = some (.bool (((K : Int)) % 3 == 0)) := by
        have e := q0.2.inv
        have c := q0.1
        simp only [Nat.add_zero] at c
        rw [c, e]
      clear q0
      have q1 := hcj 1 (.c (.int .i64 ((K + 1 : Nat) : Int))) rfl
      have u1 : w.cell? ⟨b, o + j * 3 + 1, none⟩ = some (.int .i64 ((K : Int) + 1)) := by
        have e := q1.2.inv
        have c := q1.1
        rw [c, e]
        rw [show ((K + 1 : Nat) : Int) = (K : Int) + 1 from by omega]
      clear q1
      have q2 := hcj 2 (.c (.string (mt (K + 1 + 1)))) rfl
      have u2 : w.cell? ⟨b, o + j * 3 + 2, none⟩ = some (.string (mt (K + 2))) := by
        have e := q2.2.inv
        have c := q2.1
        rw [c, e]
      clear q2
      clear hcj
      have c0 := (hbe.cell (p := ⟨b, o + j * 3, none⟩) hbw).trans u0
      have c1 := (hbe.cell (p := ⟨b, o + j * 3 + 1, none⟩) hbw).trans u1
      have c2 := (hbe.cell (p := ⟨b, o + j * 3 + 2, none⟩) hbw).trans u2
      have hbb0 : ((((K : Int)) % 3 == 0) != (((K : Int)) % 3 == 0)) = false := by simp
      have HQ2 := hide (show ∀ W, _ from fun W => markText_any (K + 2) (by omega) (by omega) W)
      rw [show ((K + 2 : Nat) : Int) = (K : Int) + 1 + 1 from by omega] at HQ2
      have hz0 : b < wr.heap.size := Nat.lt_of_lt_of_le hbw hbe.size
      go_wp2
      go_region_held3 (fun w' => w'.cell? ⟨b, o + j * 3 + 2, none⟩ = some (.string (mt (K + 2)))) (first | go_keep | (exact (b1.cell (p := ⟨b, o + j * 3 + 2, none⟩) (by first | omega | (simp; omega))).trans (by assumption))) ((go_at_call 37; refine (HQ2.out _).mono ?_; rintro e w1 ⟨rfl, b1⟩))
      all_goals
        have bb1 : Below wr.heap.size wr w1 := ((Below.refl wr.heap.size wr).drew).trans b1
        have kk1 := hbe.trans (bb1.mono hbe.size)
        clear b1 bb1 HQ2 hz0 c0 c1 c2
        have HT := hide kk1
        clear kk1
        go_wp2
        go_roundw
        case rel => exact ⟨j + 1, K + 3, by omega, by go_num, by first | go_num | (congr 1; omega), (by have := HNX.out; show _ = _; omega), HT.out⟩
        case measure => simp [intOf]; omega
    · have hjn : j = l.length := by omega
      subst hjn
      have hKK := hK.out
      rw [HKA.out] at hKK
      subst hKK
      go_wp2
      go_ret
      exact ⟨rfl, hbe⟩
end Go.Proofs.YtmgikfeknmbpbaaDoor
namespace Go.Proofs.YtmgikfeknmbpbaaDoor
open Go.RowKit M
set_option linter.unusedVariables false

set_option maxRecDepth 100000 in
set_option maxHeartbeats 4000000 in
theorem heldCondSS_gen (l : List (List Cn)) (k0 : Nat) (v : Value) (B : Nat) (w : World) (h : View w B v (mkF k0 (.l (l.map dCs)))) (hB : B ≤ w.heap.size) (hk1 : 1 ≤ k0) (hk : k0 + cntRs (l.map dCs) ≤ 90000000) (hn : l.length ≤ 90000000) :
    Calls Tryd.prog 9 #[v, .int .i64 k0] w fun e w' => e = .returned (.int .i64 ((k0 + cntRs (l.map dCs) : Nat) : Int)) ∧ Below w.heap.size w w' := by
  obtain ⟨a, cap, rfl, hl, hm, hat⟩ := h.marked 1 (fun _ => rfl)
  have HAT := hide hat
  have HKB := hide hk
  have hka := kAtF_all dCs k0 l
  have HKA := hide hka
  have hk00 := kAtF_zero dCs k0 l
  clear h hat hl hm hk hka
  go_enter Tryd.func9, Tryd.ntmps9
  go_wp2
  go_loopw [1, 5] (fun kv i wr => ∃ j K : Nat, j ≤ l.length ∧ i = .int .i64 j ∧ kv = .int .i64 K ∧ Hid (K = kAtF dCs k0 l j) ∧ Below w.heap.size w wr) (fun _ i _ => l.length - (intOf i).toNat)
  case atStart => exact ⟨0, k0, Nat.zero_le _, rfl, rfl, hk00.symm, Below.refl _ _⟩
  case round =>
    obtain ⟨j, K, hj, rfl, rfl, hK, hbe⟩ := hrel
    by_cases hlt : j < l.length
    · obtain ⟨b, o, C, rfl, hb, hc⟩ := HAT.out (by omega)
      have hcj := hc j hlt
      have hN := kAtF_next dCs k0 l j hlt
      have hle := (kAtF_le dCs k0 l (j + 1)).2
      have hle0 := (kAtF_le dCs k0 l j).1
      have hbw : b < w.heap.size := Nat.lt_of_lt_of_le hb hB
      have hi0 : (0 : Int) ≤ (j : Int) := by omega
      have hi1 : (j : Int) < (l.length : Int) := by omega
      obtain ⟨x, hx⟩ : ∃ x, l[j] = x := ⟨_, rfl⟩
      rw [hx] at hcj hN
      rw [hN] at hle
      rw [← hK.out] at hcj hN hle hle0
      clear hx hc
      have hsum : cntR (dCs x) = cntRs (x.map dCn) := by simp [dCs, cntR, cntF]
      rw [hsum] at hN hle
      have hle2 := Nat.le_trans hle HKB.out
      have HNX := hide hN
      have hK1 : 1 ≤ K := Nat.le_trans hk1 hle0
      clear hle hle0 hsum hN
      have HQ0 := hide (fun W (hb : Below w.heap.size w W) => heldCondS_gen (x) (K) (C j 0) B W ((hcj 0 (mkF (K) (.l (x.map dCn))) rfl).2.stays hb hB) (Nat.le_trans hB hb.size) (by omega) (by omega))
      have u0 := (hcj 0 (mkF (K) (.l (x.map dCn))) rfl).1
      simp only [Nat.mul_one, Nat.add_zero] at u0
      obtain ⟨M0, hM0⟩ : ∃ M, K + cntRs (x.map dCn) = M := ⟨_, rfl⟩
      rw [hM0] at HQ0
      clear hcj
      have hb0 : M0 ≤ 90000000 := by omega
      have HM0 := hide hM0
      clear hM0
      have c0 := (hbe.cell (p := ⟨b, o + j, none⟩) hbw).trans u0
      go_wp2_with fail
      refine (HQ0.out _ hbe).mono ?_
      rintro e w1 ⟨rfl, b1⟩
      have kk1 := hbe.trans (b1.mono hbe.size)
      clear b1 HQ0 c0
      have HT := hide kk1
      clear kk1
      go_wp2
      go_roundw
      case rel => exact ⟨j + 1, M0, by omega, by go_num, by first | go_num | (congr 1; omega), (by have := HNX.out; have := HM0.out; show _ = _; omega), HT.out⟩
      case measure => simp [intOf]; omega
    · have hjn : j = l.length := by omega
      subst hjn
      have hKK := hK.out
      rw [HKA.out] at hKK
      subst hKK
      go_wp2
      go_ret
      exact ⟨rfl, hbe⟩
end Go.Proofs.YtmgikfeknmbpbaaDoor
namespace Go.Proofs.YtmgikfeknmbpbaaDoor
open Go.RowKit M
set_option linter.unusedVariables false

set_option maxRecDepth 100000 in
set_option maxHeartbeats 4000000 in
theorem eqCond_gen (x : Cn) (B C : Nat) (w : World) (hB : B ≤ w.heap.size) (hC : C ≤ w.heap.size) :
    Calls Tryd.prog 36 #[.agg #[.bool x.no, .int .i64 x.tk, .string x.tg], .agg #[.bool x.no, .int .i64 x.tk, .string x.tg]] w fun e w' => e = .returned (.bool true) ∧ Below w.heap.size w w' := by
  have K0 := hide (show Below w.heap.size w ((w.alloc (Obj.cells #[.bool x.no, .int .i64 x.tk, .string x.tg] 48)).alloc (Obj.cells #[.bool x.no, .int .i64 x.tk, .string x.tg] 48)) from ((Below.refl _ _).alloc (Nat.le_refl _) _).alloc (by simp) _)
  have X0 := hide (show BoxV ((w.alloc (Obj.cells #[.bool x.no, .int .i64 x.tk, .string x.tg] 48)).alloc (Obj.cells #[.bool x.no, .int .i64 x.tk, .string x.tg] 48)) w.heap.size [.bool x.no, .int .i64 x.tk, .string x.tg] from (BoxV.made w [.bool x.no, .int .i64 x.tk, .string x.tg] 48).alloc _)
  have Y0 := hide (show BoxV ((w.alloc (Obj.cells #[.bool x.no, .int .i64 x.tk, .string x.tg] 48)).alloc (Obj.cells #[.bool x.no, .int .i64 x.tk, .string x.tg] 48)) (w.heap.size + 1) [.bool x.no, .int .i64 x.tk, .string x.tg] by have h := BoxV.made (w.alloc (Obj.cells #[.bool x.no, .int .i64 x.tk, .string x.tg] 48)) [.bool x.no, .int .i64 x.tk, .string x.tg] 48; simpa using h)
  have e1 : (x.tk == x.tk) = true := beq_self_eq_true _
  go_enter Tryd.func36, Tryd.ntmps36
  go_wp2
  go_ret
  exact ⟨rfl, K0.out⟩
end Go.Proofs.YtmgikfeknmbpbaaDoor
namespace Go.Proofs.YtmgikfeknmbpbaaDoor
open Go.RowKit M
set_option linter.unusedVariables false

set_option maxRecDepth 100000 in
set_option maxHeartbeats 4000000 in
theorem eqCondS_gen (l : List Cn) (v v' : Value) (B B' : Nat) (w : World) (h : View w B v (.l (l.map dCn))) (h' : View w B' v' (.l (l.map dCn))) (hB : B ≤ w.heap.size) (hB' : B' ≤ w.heap.size) :
    Calls Tryd.prog 18 #[v, v'] w fun e w' => e = .returned (.bool true) ∧ Below w.heap.size w w' := by
  obtain ⟨a, cap, rfl, hl, hm, _, hat⟩ := h.rows 3 (fun _ => rfl)
  obtain ⟨a', cap', rfl, hl', hm', _, hat'⟩ := h'.rows 3 (fun _ => rfl)
  have hn : l.length ≤ maxLen := Nat.le_trans hl hm
  unfold maxLen at hn
  have HAT := hide hat
  have HAT' := hide hat'
  clear h h' hat hat' hl hl' hm hm'
  go_enter Tryd.func18, Tryd.ntmps18
  go_wp2
  go_loopw [5] (fun i wr => ∃ k : Nat, k ≤ l.length ∧ i = .int .i64 k ∧ Below w.heap.size w wr) (fun i _ => l.length - (intOf i).toNat)
  case atStart => exact ⟨0, Nat.zero_le _, rfl, Below.refl _ _⟩
  case round =>
    obtain ⟨k, hk, rfl, hbe⟩ := hrel
    by_cases hlt : k < l.length
    · obtain ⟨b, o, C, rfl, hb, hc⟩ := HAT.out (by omega)
      obtain ⟨b', o', C', rfl, hb', hc'⟩ := HAT'.out (by omega)
      have hck := hc k hlt
      have hck' := hc' k hlt
      have hbw : b < w.heap.size := Nat.lt_of_lt_of_le hb hB
      have hbw' : b' < w.heap.size := Nat.lt_of_lt_of_le hb' hB'
      have hi0 : (0 : Int) ≤ (k : Int) := by omega
      have hi1 : (k : Int) < (l.length : Int) := by omega
      obtain ⟨x, hx⟩ : ∃ x, l[k] = x := ⟨_, rfl⟩
      rw [hx] at hck hck'
      clear hx hc hc'
      have c0 : wr.cell? ⟨b, o + k * 3, none⟩ = some (.bool x.no) := by
        obtain ⟨c, v⟩ := hck 0 (.c (.bool x.no)) rfl
        rw [v.inv] at c
        simp only [Nat.add_zero] at c
        exact (hbe.cell (p := ⟨b, o + k * 3, none⟩) hbw).trans c
      have c1 : wr.cell? ⟨b, o + k * 3 + 1, none⟩ = some (.int .i64 x.tk) := by
        obtain ⟨c, v⟩ := hck 1 (.c (.int .i64 x.tk)) rfl
        rw [v.inv] at c
        exact (hbe.cell (p := ⟨b, o + k * 3 + 1, none⟩) hbw).trans c
      have c2 : wr.cell? ⟨b, o + k * 3 + 2, none⟩ = some (.string x.tg) := by
        obtain ⟨c, v⟩ := hck 2 (.c (.string x.tg)) rfl
        rw [v.inv] at c
        exact (hbe.cell (p := ⟨b, o + k * 3 + 2, none⟩) hbw).trans c
      have c0' : wr.cell? ⟨b', o' + k * 3, none⟩ = some (.bool x.no) := by
        obtain ⟨c, v⟩ := hck' 0 (.c (.bool x.no)) rfl
        rw [v.inv] at c
        simp only [Nat.add_zero] at c
        exact (hbe.cell (p := ⟨b', o' + k * 3, none⟩) hbw').trans c
      have c1' : wr.cell? ⟨b', o' + k * 3 + 1, none⟩ = some (.int .i64 x.tk) := by
        obtain ⟨c, v⟩ := hck' 1 (.c (.int .i64 x.tk)) rfl
        rw [v.inv] at c
        exact (hbe.cell (p := ⟨b', o' + k * 3 + 1, none⟩) hbw').trans c
      have c2' : wr.cell? ⟨b', o' + k * 3 + 2, none⟩ = some (.string x.tg) := by
        obtain ⟨c, v⟩ := hck' 2 (.c (.string x.tg)) rfl
        rw [v.inv] at c
        exact (hbe.cell (p := ⟨b', o' + k * 3 + 2, none⟩) hbw').trans c
      clear hck hck'
      have hbd : Below w.heap.size w wr.drew := below_drewG hbe
      have hq := hide (eqCond_gen x B B' wr.drew (Nat.le_trans hB hbd.size) (Nat.le_trans hB' hbd.size))
      have HX := hide (show wr.drew.cell? ⟨b, o + k * 3, none⟩ = some (.bool x.no) ∧ wr.drew.cell? ⟨b, o + k * 3 + 1, none⟩ = some (.int .i64 x.tk) ∧ wr.drew.cell? ⟨b, o + k * 3 + 2, none⟩ = some (.string x.tg) ∧ wr.drew.cell? ⟨b', o' + k * 3, none⟩ = some (.bool x.no) ∧ wr.drew.cell? ⟨b', o' + k * 3 + 1, none⟩ = some (.int .i64 x.tk) ∧ wr.drew.cell? ⟨b', o' + k * 3 + 2, none⟩ = some (.string x.tg) from ⟨c0, c1, c2, c0', c1', c2'⟩)
      have hz1 : b < wr.heap.size := Nat.lt_of_lt_of_le hbw hbe.size
      have hz2 : b' < wr.heap.size := Nat.lt_of_lt_of_le hbw' hbe.size
      go_wp2
      go_region_held3 (fun W => W.cell? ⟨b, o + k * 3, none⟩ = some (.bool x.no) ∧ W.cell? ⟨b, o + k * 3 + 1, none⟩ = some (.int .i64 x.tk) ∧ W.cell? ⟨b, o + k * 3 + 2, none⟩ = some (.string x.tg) ∧ W.cell? ⟨b', o' + k * 3, none⟩ = some (.bool x.no) ∧ W.cell? ⟨b', o' + k * 3 + 1, none⟩ = some (.int .i64 x.tk) ∧ W.cell? ⟨b', o' + k * 3 + 2, none⟩ = some (.string x.tg)) (first | exact HX.out | exact HX2.out) ((go_at_call 36; refine hq.out.mono ?_; rintro e w1 ⟨rfl, hb3⟩; have HX2 := hide (show w1.cell? ⟨b, o + k * 3, none⟩ = some (.bool x.no) ∧ w1.cell? ⟨b, o + k * 3 + 1, none⟩ = some (.int .i64 x.tk) ∧ w1.cell? ⟨b, o + k * 3 + 2, none⟩ = some (.string x.tg) ∧ w1.cell? ⟨b', o' + k * 3, none⟩ = some (.bool x.no) ∧ w1.cell? ⟨b', o' + k * 3 + 1, none⟩ = some (.int .i64 x.tk) ∧ w1.cell? ⟨b', o' + k * 3 + 2, none⟩ = some (.string x.tg) from ⟨(hb3.cell (p := ⟨b, o + k * 3, none⟩) hz1).trans c0, (hb3.cell (p := ⟨b, o + k * 3 + 1, none⟩) hz1).trans c1, (hb3.cell (p := ⟨b, o + k * 3 + 2, none⟩) hz1).trans c2, (hb3.cell (p := ⟨b', o' + k * 3, none⟩) hz2).trans c0', (hb3.cell (p := ⟨b', o' + k * 3 + 1, none⟩) hz2).trans c1', (hb3.cell (p := ⟨b', o' + k * 3 + 2, none⟩) hz2).trans c2'⟩)))
      all_goals
        have c9 := hbd.trans (hb3.mono hbd.size)
        clear hq hb3 HX HX2
        go_wp2
        go_roundw
        case rel => exact ⟨k + 1, by omega, by go_num, c9⟩
        case measure => simp [intOf]; omega
    · go_wp2
      go_ret
      exact ⟨rfl, hbe⟩
end Go.Proofs.YtmgikfeknmbpbaaDoor
namespace Go.Proofs.YtmgikfeknmbpbaaDoor
open Go.RowKit M
set_option linter.unusedVariables false

set_option maxRecDepth 100000 in
set_option maxHeartbeats 4000000 in
theorem eqCondSS_gen (l : List (List Cn)) (v v' : Value) (B B' : Nat) (w : World) (h : View w B v (.l (l.map dCs))) (h' : View w B' v' (.l (l.map dCs))) (hB : B ≤ w.heap.size) (hB' : B' ≤ w.heap.size) :
    Calls Tryd.prog 7 #[v, v'] w fun e w' => e = .returned (.bool true) ∧ Below w.heap.size w w' := by
  obtain ⟨a, cap, rfl, hl, hm, _, hat⟩ := h.rows 1 (fun _ => rfl)
  obtain ⟨a', cap', rfl, hl', hm', _, hat'⟩ := h'.rows 1 (fun _ => rfl)
  have hn : l.length ≤ maxLen := Nat.le_trans hl hm
  unfold maxLen at hn
  have HAT := hide hat
  have HAT' := hide hat'
  clear h h' hat hat' hl hl' hm hm'
  go_enter Tryd.func7, Tryd.ntmps7
  go_wp2
  go_loopw [5] (fun i wr => ∃ k : Nat, k ≤ l.length ∧ i = .int .i64 k ∧ Below w.heap.size w wr) (fun i _ => l.length - (intOf i).toNat)
  case atStart => exact ⟨0, Nat.zero_le _, rfl, Below.refl _ _⟩
  case round =>
    obtain ⟨k, hk, rfl, hbe⟩ := hrel
    by_cases hlt : k < l.length
    · obtain ⟨b, o, C, rfl, hb, hc⟩ := HAT.out (by omega)
      obtain ⟨b', o', C', rfl, hb', hc'⟩ := HAT'.out (by omega)
      have hck := hc k hlt
      have hck' := hc' k hlt
      have hbw : b < w.heap.size := Nat.lt_of_lt_of_le hb hB
      have hbw' : b' < w.heap.size := Nat.lt_of_lt_of_le hb' hB'
      have hi0 : (0 : Int) ≤ (k : Int) := by omega
      have hi1 : (k : Int) < (l.length : Int) := by omega
      obtain ⟨x, hx⟩ : ∃ x, l[k] = x := ⟨_, rfl⟩
      rw [hx] at hck hck'
      clear hx hc hc'
      obtain ⟨c0, v0⟩ := hck 0 (.l (x.map dCn)) rfl
      simp only [Nat.mul_one, Nat.add_zero] at c0
      have c0 := (hbe.cell (p := ⟨b, o + k, none⟩) hbw).trans c0
      obtain ⟨c0', v0'⟩ := hck' 0 (.l (x.map dCn)) rfl
      simp only [Nat.mul_one, Nat.add_zero] at c0'
      have c0' := (hbe.cell (p := ⟨b', o' + k, none⟩) hbw').trans c0'
      clear hck hck'
      have hbd : Below w.heap.size w wr.drew := below_drewG hbe
      have hq := hide (eqCondS_gen x (C k 0) (C' k 0) B B' wr.drew (v0.stays hbd hB) (v0'.stays hbd hB') (Nat.le_trans hB hbd.size) (Nat.le_trans hB' hbd.size))
      clear v0 v0'
      have HX := hide (show wr.drew.cell? ⟨b, o + k, none⟩ = some (C k 0) ∧ wr.drew.cell? ⟨b', o' + k, none⟩ = some (C' k 0) from ⟨c0, c0'⟩)
      have hz1 : b < wr.heap.size := Nat.lt_of_lt_of_le hbw hbe.size
      have hz2 : b' < wr.heap.size := Nat.lt_of_lt_of_le hbw' hbe.size
      go_wp2
      go_region_held3 (fun W => W.cell? ⟨b, o + k, none⟩ = some (C k 0) ∧ W.cell? ⟨b', o' + k, none⟩ = some (C' k 0)) (first | exact HX.out | exact HX2.out) ((go_at_call 18; refine hq.out.mono ?_; rintro e w1 ⟨rfl, hb3⟩; have HX2 := hide (show w1.cell? ⟨b, o + k, none⟩ = some (C k 0) ∧ w1.cell? ⟨b', o' + k, none⟩ = some (C' k 0) from ⟨(hb3.cell (p := ⟨b, o + k, none⟩) hz1).trans c0, (hb3.cell (p := ⟨b', o' + k, none⟩) hz2).trans c0'⟩)))
      all_goals
        have c9 := hbd.trans (hb3.mono hbd.size)
        clear hq hb3 HX HX2
        go_wp2
        go_roundw
        case rel => exact ⟨k + 1, by omega, by go_num, c9⟩
        case measure => simp [intOf]; omega
    · go_wp2
      go_ret
      exact ⟨rfl, hbe⟩
end Go.Proofs.YtmgikfeknmbpbaaDoor
