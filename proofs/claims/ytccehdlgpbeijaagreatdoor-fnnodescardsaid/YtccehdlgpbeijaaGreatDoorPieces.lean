/-
  What the program's Pieces does.
-/
import Derived.Test.YtccehdlgpbeijaaGreatDoorReadMark
import Derived.Test.YtccehdlgpbeijaaGreatDoorRowsP
import Derived.Test.YtccehdlgpbeijaaGreatDoorParseNum
namespace Go.Proofs.YtccehdlgpbeijaaGreatDoor
open Go.RowKit M
set_option linter.unusedVariables false

set_option maxHeartbeats 1000000 in
theorem piece_open (name ns : ByteArray) (has : Bool) (w : World) :
    Calls Tryz.prog 156 #[.agg #[.string name, .bool has, .string ns]] w fun e w' => e = .returned (.agg #[.int .i64 1, .string name, .string ns, .bool has, .string noB]) ∧ Below w.heap.size w w' := by
  go_enter Tryz.func156, Tryz.ntmps156
  go_wp2
  exact bodyPost_ret (v := .agg #[.int .i64 1, .string name, .string ns, .bool has, .string noB]) (by simp [results, Tryz.results156, go_sem]; rfl) rfl ⟨rfl, ((Below.refl _ _).alloc (Nat.le_refl _) _).alloc (by simp) _⟩
set_option maxHeartbeats 1000000 in
theorem piece_empty (name ns : ByteArray) (has : Bool) (w : World) :
    Calls Tryz.prog 154 #[.agg #[.string name, .bool has, .string ns]] w fun e w' => e = .returned (.agg #[.int .i64 3, .string name, .string ns, .bool has, .string noB]) ∧ Below w.heap.size w w' := by
  go_enter Tryz.func154, Tryz.ntmps154
  go_wp2
  exact bodyPost_ret (v := .agg #[.int .i64 3, .string name, .string ns, .bool has, .string noB]) (by simp [results, Tryz.results154, go_sem]; rfl) rfl ⟨rfl, ((Below.refl _ _).alloc (Nat.le_refl _) _).alloc (by simp) _⟩
set_option maxHeartbeats 1000000 in
theorem piece_close (name : ByteArray) (w : World) :
    Calls Tryz.prog 157 #[.agg #[.string name]] w fun e w' => e = .returned (.agg #[.int .i64 2, .string name, .string noB, .bool false, .string noB]) ∧ Below w.heap.size w w' := by
  go_enter Tryz.func157, Tryz.ntmps157
  go_wp2
  exact bodyPost_ret (v := .agg #[.int .i64 2, .string name, .string noB, .bool false, .string noB]) (by simp [results, Tryz.results157, go_sem]; rfl) rfl ⟨rfl, ((Below.refl _ _).alloc (Nat.le_refl _) _).alloc (by simp) _⟩
set_option maxHeartbeats 1000000 in
theorem piece_text (s : ByteArray) (w : World) :
    Calls Tryz.prog 158 #[.agg #[.string s]] w fun e w' => e = .returned (.agg #[.int .i64 4, .string noB, .string noB, .bool false, .string s]) ∧ Below w.heap.size w w' := by
  go_enter Tryz.func158, Tryz.ntmps158
  go_wp2
  exact bodyPost_ret (v := .agg #[.int .i64 4, .string noB, .string noB, .bool false, .string s]) (by simp [results, Tryz.results158, go_sem]; rfl) rfl ⟨rfl, ((Below.refl _ _).alloc (Nat.le_refl _) _).alloc (by simp) _⟩

open Go.Instr in
theorem method_open (v : Value) (w : World) : (method 287 80 v "loop.example/g00452/impl.piece").run Tryz.prog w = .ok (156, v) w := by kernel_rfl
open Go.Instr in
theorem method_close (v : Value) (w : World) : (method 287 83 v "loop.example/g00452/impl.piece").run Tryz.prog w = .ok (157, v) w := by kernel_rfl
open Go.Instr in
theorem method_empty (v : Value) (w : World) : (method 287 72 v "loop.example/g00452/impl.piece").run Tryz.prog w = .ok (154, v) w := by kernel_rfl
open Go.Instr in
theorem method_text (v : Value) (w : World) : (method 287 102 v "loop.example/g00452/impl.piece").run Tryz.prog w = .ok (158, v) w := by kernel_rfl

/-- What Pieces answers. -/
def PcsIs (w' : World) (B : Nat) (r : List Pce × Bool) (e : Ending) : Prop := ∃ v, e = .returned (.tuple #[v, .bool r.2]) ∧ OwnP w' B v r.1
theorem pcs_ret {w' : World} {B : Nat} {r : List Pce × Bool} {v : Value} {ps : List Pce} {b : Bool} (h : r = (ps, b)) (ho : OwnP w' B v ps) : PcsIs w' B r (.returned (.tuple #[v, .bool b])) := by subst h; exact ⟨v, rfl, ho⟩
/-- The value and the method of a mark. -/
theorem mark_calls {p : Pce} (h : CanonP p) : ∃ (T : TypeId) (v : Value) (f : Nat), markV p = .iface T v ∧ ((T = 80 ∧ f = 156) ∨ (T = 83 ∧ f = 157) ∨ (T = 72 ∧ f = 154) ∨ (T = 102 ∧ f = 158)) ∧
    ∀ w, Calls Tryz.prog f #[v] w fun e w' => e = .returned (.agg #[.int .i64 p.k, .string p.name, .string p.ns, .bool p.has, .string p.s]) ∧ Below w.heap.size w w' := by
  obtain ⟨k, name, ns, has, s⟩ := p
  rcases h with ⟨h1 | h1, h2⟩ | ⟨h1, h2, h3, h4⟩ | ⟨h1, h2, h3, h4⟩
  · simp only at h1 h2
    subst h1 h2
    exact ⟨_, _, _, (mv_open _ _ _).symm, .inl ⟨rfl, rfl⟩, fun w => piece_open name ns has w⟩
  · simp only at h1 h2
    subst h1 h2
    exact ⟨_, _, _, (mv_empty _ _ _).symm, .inr (.inr (.inl ⟨rfl, rfl⟩)), fun w => piece_empty name ns has w⟩
  · simp only at h1 h2 h3 h4
    subst h1 h2 h3 h4
    exact ⟨_, _, _, (mv_close _).symm, .inr (.inl ⟨rfl, rfl⟩), fun w => piece_close name w⟩
  · simp only at h1 h2 h3 h4
    subst h1 h2 h3 h4
    exact ⟨_, _, _, (mv_text _).symm, .inr (.inr (.inr ⟨rfl, rfl⟩)), fun w => piece_text s w⟩

set_option maxRecDepth 100000 in
set_option maxHeartbeats 2000000 in
theorem pieces_any (s : ByteArray) (w : World) (hs : s.size ≤ 1099511627776) :
    Calls Tryz.prog 49 #[.string s] w fun e w' => PcsIs w' w.heap.size (pcsR s.data.toList) e ∧ Below w.heap.size w w' := by
  have el : s.data.toList.length = s.size := Array.length_toList
  have EL := hide el
  clear el
  have HP := hide (fun W : World => plain_any s W (by unfold maxLen; omega))
  cases hpl : allB s.data.toList [0]
  · rw [hpl] at HP
    have HR := hide (pcsR_not hpl)
    clear hpl
    go_enter Tryz.func49, Tryz.ntmps49
    go_wp2_with fail
    refine (HP.out _).mono ?_
    rintro e w1 ⟨rfl, b1⟩
    go_wp2
    go_ret2
    exact ⟨pcs_ret HR.out (OwnP.made w1 w.heap.size b1.size), b1.alloc b1.size _⟩
  · rw [hpl] at HP
    have HPL := hide hpl
    clear hpl
    go_enter Tryz.func49, Tryz.ntmps49
    go_wp2_with fail
    refine (HP.out _).mono ?_
    rintro e w1 ⟨rfl, b1⟩
    have O1 := hide (OwnP.made w1 w.heap.size b1.size)
    have B1 := hide (b1.alloc b1.size (Obj.cells #[] 89))
    clear b1 HP
    go_wp2
    go_loopw [0, 4] (fun v l wr => ∃ (t : ByteArray) (acc : List Pce), v = .string t ∧ PcAt s.data.toList t.data.toList acc ∧ OwnP wr w.heap.size l acc ∧ Below w.heap.size w wr) (fun v _ _ => match v with | .string t => t.size | _ => 0)
    case atStart => exact ⟨s, [], rfl, PcAt.start _, O1.out, B1.out⟩
    case round =>
      obtain ⟨t, acc, rfl, hA, hO, hbe⟩ := hrel
      clear O1 B1
      have tl : t.data.toList.length = t.size := Array.length_toList
      have hts : t.size ≤ 1099511627776 := by have := hA.1; have := EL.out; omega
      have h60 : acc.length ≤ 60 := hA.2.1
      have HA := hide hA
      have TL := hide tl
      clear hA tl
      obtain ⟨al, cl, rfl⟩ := hO.slice
      have HO := hide hO
      clear hO
      have em := emptyL t
      by_cases h0 : t.data.toList = []
      · rw [decide_eq_true h0] at em
        have hd := HA.out
        rw [h0] at hd
        have HD := hide (hd.done HPL.out)
        clear h0 hd
        go_wp2
        go_ret2
        exact ⟨pcs_ret HD.out HO.out, hbe⟩
      · rw [decide_eq_false h0] at em
        have HM := hide (fun W : World => readMark_any t W hts)
        have H0 := hide h0
        clear h0
        go_wp2_with fail
        refine (HM.out wr).mono ?_
        rintro e w2 ⟨⟨p, t2, ok, rfl, hok, hst⟩, b2⟩
        have HST := hide hst
        have c2 := hbe.trans (b2.mono hbe.size)
        have O2 := hide (HO.out.next b2)
        clear hst HM
        cases hsl : markL t.data.toList with
        | none =>
          rw [hsl] at hok
          have hok' : ok = false := hok
          subst hok'
          have HD := hide (HA.out.bad H0.out hsl)
          obtain ⟨v, hv⟩ : ∃ v, markV p = v := ⟨_, rfl⟩
          rw [hv]
          clear hok hsl hv
          go_wp2
          go_ret2
          exact ⟨pcs_ret HD.out (OwnP.made w2 w.heap.size c2.size), c2.alloc c2.size _⟩
        | some x =>
          obtain ⟨p0, r0⟩ := x
          rw [hsl] at hok
          have hok' : ok = true := hok
          subst hok'
          obtain ⟨rfl, h3⟩ := HST.out p0 r0 hsl
          have hcan := markL_canon hsl
          by_cases hn : acc.length = 60
          · have HD := hide (HA.out.many H0.out hn)
            have hn' : ((acc.length : Int) == 60) = true := by rw [beq_iff_eq]; omega
            obtain ⟨v, hv⟩ : ∃ v, markV p = v := ⟨_, rfl⟩
            rw [hv]
            clear hok hsl hv hn
            go_wp2
            go_ret2
            exact ⟨pcs_ret HD.out (OwnP.made w2 w.heap.size c2.size), c2.alloc c2.size _⟩
          · have hn' : ((acc.length : Int) == 60) = false := by rw [beq_eq_false_iff_ne]; omega
            have hA2 := HA.out.step H0.out hsl (by omega)
            have hlt := markL_lt H0.out hsl
            rw [← h3] at hA2 hlt
            have hlt2 : t2.size < t.size := by
              have h4 : t2.data.toList.length = t2.size := Array.length_toList
              have := TL.out
              omega
            have HA2 := hide hA2
            obtain ⟨T, v, f, hv, hT, hf⟩ := mark_calls hcan
            have HF := hide hf
            rw [hv]
            clear hok hsl h3 hA2 hlt HST hcan hv hn hf
            have m1 := method_open v w2
            have m2 := method_close v w2
            have m3 := method_empty v w2
            have m4 := method_text v w2
            rcases hT with ⟨rfl, rfl⟩ | ⟨rfl, rfl⟩ | ⟨rfl, rfl⟩ | ⟨rfl, rfl⟩
            all_goals
              go_wp2_with fail
              refine (HF.out w2).mono ?_
              rintro e w3 ⟨rfl, b3⟩
              clear m1 m2 m3 m4
              have c3 := c2.trans (b3.mono c2.size)
              have O3 := hide ((O2.out.next b3).alloc (Obj.cells #[.int .i64 p.k, .string p.name, .string p.ns, .bool p.has, .string p.s] 89))
              go_wp2_with (at_builtin; refine wp_append_piece rfl _ _ rfl w.heap.size _ acc rfl O3.out _ p rfl ?c0 ?c1 ?c2 ?c3 ?c4 ?c5 ?c6 ?_)
              case c0 => simp
              case c1 => simp
              case c2 => simp
              case c3 => simp
              case c4 => simp
              case c5 => omega
              case c6 => have := c3.size; simp; omega
              intro g4 cap4 w4 o4 b4 _
              have hl4 : acc.length + 1 = (acc ++ [p]).length := by simp
              have O4 := hide o4
              have B4 := hide ((c3.alloc c3.size _).trans b4)
              clear o4 b4 O3
              go_wp2
              go_roundw
              case rel => exact ⟨t2, acc ++ [p], rfl, HA2.out, O4.out, B4.out⟩
              case measure => exact hlt2
end Go.Proofs.YtccehdlgpbeijaaGreatDoor
