/-
  Rows of heads that the call itself made: one more behind, and what they hold.
  The draws of heads: whatever is drawn, they are few and short, in memory of their own.
  The draws of requests: whatever is drawn, they are short, in memory of their own.
  'append' of a head in a region that draws; lists of texts that were just built.
  A number that is picked of a list.
  What is known in the course of a draw of a request.
  The draws of requests, bent or not: whatever is drawn, it is small, in memory of its own.
  What spec.l1Once does.
  Slices of bytes: what they hold, and that it stays; parts of them; texts of them.
  Rows of bytes that the call made, of a text or by appending: a text more behind; what they hold. (Such a row may bear a mark behind its last cell.)
  Bytes of another slice behind a row of bytes that the call made.
  'append' of bytes onto a row of bytes that the call made, as a step of a region that draws; what stands in the course of it.
-/
import Derived.Test.YtanebchmeaomgaaGreatDoorHeads
import Derived.WalkSmall
import Derived.Laws.OwnMore
import Derived.Laws.IdiomStrings
import Derived.Deep.OwnRows
import Derived.Deep.RegionLaw
import Derived.Laws.BytesArg
import Derived.Test.YtanebchmeaomgaaGreatDoorRows
import Derived.WalkKit
import Derived.WalkSpells
import Derived.WalkLawsBesides
import Derived.Deep.Light
import Derived.Deep.QuietTactic
import Derived.Lib.AppendStr
import Derived.Lib.ConvBytes
import Derived.Lib.FrozenHead
import Derived.Laws.MakeOwn
namespace Go.Proofs.YtanebchmeaomgaaGreatDoor
open Go.RowKit M
set_option linter.unusedVariables false

def hdCells (hs : List Hd) : List Value := hs.flatMap fun h => [.string h.1, .string h.2]
theorem hdCells_length (hs : List Hd) : (hdCells hs).length = hs.length * 2 := by
  induction hs with
  | nil => rfl
  | cons h r ih => simp only [hdCells, List.flatMap_cons, List.length_append, List.length_cons, List.length_nil] at *; omega
theorem hdCells_append (hs ts : List Hd) : hdCells (hs ++ ts) = hdCells hs ++ hdCells ts := by simp [hdCells]
theorem hdCells_at (hs : List Hd) : ∀ j (hj : j < hs.length), (hdCells hs)[j * 2]? = some (.string hs[j].1) ∧ (hdCells hs)[j * 2 + 1]? = some (.string hs[j].2) := by
  induction hs with
  | nil => intro j hj; cases hj
  | cons h r ih =>
    intro j hj
    have e : hdCells (h :: r) = .string h.1 :: .string h.2 :: hdCells r := rfl
    rw [e]
    cases j with
    | zero => exact ⟨rfl, rfl⟩
    | succ j =>
      have h1 := ih j (by simpa using hj)
      have e1 : (j + 1) * 2 = j * 2 + 1 + 1 := by omega
      rw [e1]
      simp only [List.getElem?_cons_succ, List.getElem_cons_succ]
      exact h1

theorem infoHd : (Tryz.prog.info? 82).map (fun i => (i.zero, i.size, i.bytes)) = some (some (.agg #[.string ByteArray.empty, .string ByteArray.empty]), 2, 32) := by kernel_rfl

/-- A row that the call owns stays where only new memory is laid. -/
theorem ownsH_below {B : Nat} {v : Value} {n : Nat} {xs : List Value} {w w' : World} (h : w.ownsRow B 82 2 v n xs) (hb : Below w.heap.size w w') : w'.ownsRow B 82 2 v n xs :=
  h.kept (row := none) ⟨hb.os, hb.tape, hb.output, hb.size, fun k hk _ => hb.block k hk⟩ (Classical.em _)
theorem belowH_grown {w w' : World} {B n : Nat} {v : Value} {xs : List Value} (h : w.ownsRow B 82 2 v n xs) (hB : B ≤ w.heap.size) (hg : w.grownBy w' v.ownBlock) : Below B w w' :=
  ⟨hg.os, hg.tape, hg.output, hg.size, fun k hk => hg.block k (Nat.lt_of_lt_of_le hk hB) (fun e => by have := h.lt k e.symm; omega)⟩

/-- 'l = append(l, h)' on a row of heads that the call owns. -/
theorem wp_append_head {w : World} {ops : Array Oper} {rest : List Oper} {o : Oper} {a : Act} {Q : Exit → Act → World → Prop} (hgd : o.guard = none) (s x : Operand)
    (ho : o.op = .call { callee := .builtin .append, args := #[s, x], argTypes := #[37, 37] })
    (B : Nat) (v : Value) (n : Nat) (l : List Hd) (hs : a.eval s = v) (hown : w.ownsRow B 82 2 v n (hdCells l))
    (N : Nat) (c : Hd) (hx : a.eval x = .slice (some ⟨N, 0, none⟩) 1 1) (hc0 : w.cell? ⟨N, 0, none⟩ = some (.string c.1)) (hc1 : w.cell? ⟨N, 1, none⟩ = some (.string c.2)) (hlen : n + 1 ≤ 1099511627776) (hB : B ≤ w.heap.size)
    (h : ∀ g cap w', w'.ownsRow B 82 2 (.slice (some ⟨g, 0, none⟩) (n + 1) cap) (n + 1) (hdCells (l ++ [c])) → Below B w w' → wpList Tryz.prog ops Q rest (a.put o.dst (.slice (some ⟨g, 0, none⟩) (n + 1) cap)) w') : wpList Tryz.prog ops Q (o :: rest) a w := by
  obtain ⟨i0, hi, hz0, hz1, hz2⟩ := info_parts infoHd
  refine wpList_append_own w hgd s x 37 ho B 82 i0 _ 2 32 Tryz.underlying37 hi hz0 hz1 hz2 rfl (by decide) v n _ hs hown ⟨N, 0, none⟩ 1 1 [.string c.1, .string c.2] hx rfl ?_ ?_ ?_ ?_ hB ?_
  · intro j u hj
    have e : ∀ k, (⟨N, 0, none⟩ : Addr).add k = ⟨N, k, none⟩ := fun k => by unfold Addr.add; split <;> simp_all
    rw [e]
    match j, hj with
    | 0, hj => simp at hj; subst hj; exact hc0
    | 1, hj => simp at hj; subst hj; exact hc1
  · intro u hu; simp at hu; rcases hu with rfl | rfl <;> rfl
  · unfold maxLen; omega
  · omega
  · intro v' w' ho' hg _
    obtain ⟨g, cap, rfl⟩ : ∃ g cap, v' = .slice (some ⟨g, 0, none⟩) (n + 1) cap := by
      rcases ho'.2 with ⟨_, h0⟩ | ⟨g, cap, cur, hv, _⟩
      · omega
      · exact ⟨g, cap, hv⟩
    refine h g cap w' ?_ (belowH_grown hown hB hg)
    rw [hdCells_append]
    exact ho'

theorem ownsH_hds {w : World} {B g n c : Nat} {hs : List Hd} (h : w.ownsRow B 82 2 (.slice (some ⟨g, 0, none⟩) n c) n (hdCells hs)) (hn : n = hs.length) : Hds w w.heap.size (some ⟨g, 0, none⟩) hs := fun h0 =>
  ⟨g, 0, rfl, (h.lt g rfl).2, fun j hj => by
    have hx := hdCells_at hs j hj
    have hl := hdCells_length hs
    rw [Nat.zero_add]
    exact ⟨by rw [h.cellAt (j * 2) (by omega)]; exact hx.1, by rw [h.cellAt (j * 2 + 1) (by omega)]; exact hx.2⟩⟩
theorem ownsH_cap {w : World} {B g n c : Nat} {xs : List Value} (h : w.ownsRow B 82 2 (.slice (some ⟨g, 0, none⟩) n c) n xs) : n ≤ c ∧ c ≤ maxLen := by
  rcases h.2 with ⟨e, _⟩ | ⟨g', cap', cur, hv, _, _, h1, h2, _⟩
  · cases e
  · cases hv; exact ⟨h1, h2⟩
theorem ownsH_grown {w w' : World} {B N g n c : Nat} {xs : List Value} (h : w.ownsRow B 82 2 (.slice (some ⟨g, 0, none⟩) n c) n xs) (hg : w.grownBy w' (some N)) (hN : N < B) : w'.ownsRow B 82 2 (.slice (some ⟨g, 0, none⟩) n c) n xs :=
  h.kept hg (.inr (by have := (h.lt g rfl).1; simp [Value.ownBlock]; omega))

/-- Few short heads. -/
def FewH (n : Nat) (hs : List Hd) : Prop := hs.length ≤ n ∧ ∀ h ∈ hs, h.1.size ≤ 60 ∧ h.2.size ≤ 60
theorem FewH.snoc {n : Nat} {hs : List Hd} {h : Hd} (H : FewH n hs) (h1 : h.1.size ≤ 60) (h2 : h.2.size ≤ 60) : FewH (n + 1) (hs ++ [h]) := ⟨by have := H.1; simp; omega, fun x hx => by
  rcases List.mem_append.1 hx with hx | hx
  · exact H.2 x hx
  · simp at hx; subst hx; exact ⟨h1, h2⟩⟩
theorem FewH.mono {n m : Nat} {hs : List Hd} (h : FewH n hs) (hm : n ≤ m) : FewH m hs := ⟨Nat.le_trans h.1 hm, h.2⟩
theorem FewH.short {n : Nat} {hs : List Hd} (h : FewH n hs) : ShortH hs := fun x hx => ⟨Nat.le_trans (h.2 x hx).1 (by decide), Nat.le_trans (h.2 x hx).2 (by decide)⟩
end Go.Proofs.YtanebchmeaomgaaGreatDoor
namespace Go.Proofs.YtanebchmeaomgaaGreatDoor
open Go.RowKit M
set_option linter.unusedVariables false

def hNameD : List ByteArray := [⟨#[105, 102]⟩, ⟨#[100, 101, 112, 116, 104]⟩, ⟨#[120, 45, 97]⟩, ⟨#[104, 111, 115, 116]⟩, ⟨#[105, 102, 45, 109, 97, 116, 99, 104]⟩]
def hValD : List ByteArray := [⟨#[]⟩, ⟨#[48]⟩, ⟨#[105, 110, 102, 105, 110, 105, 116, 121]⟩, ⟨#[97, 32, 98]⟩, ⟨#[34, 118, 49, 34]⟩, ⟨#[40, 60, 49, 62, 41]⟩]

set_option maxHeartbeats 2000000 in
theorem l3DrawHeads_any {w : World} {N : Nat} {a : Option Addr} {len cap : Nat} {zs : List Int} (h : DX w N a len cap zs) :
    Calls Tryz.prog 126 #[.pointer (some ⟨N, 0, none⟩)] w fun e w' => (∃ (hs : List Hd) (n g c : Nat), FewH 2 hs ∧ n = hs.length ∧ e = .returned (.slice (some ⟨g, 0, none⟩) n c) ∧ w'.ownsRow w.heap.size 82 2 (.slice (some ⟨g, 0, none⟩) n c) n (hdCells hs)) ∧ DX w' N a len cap zs ∧ w.grownBy w' (some N) := by
  have hlt := h.lt
  have H : Hid (DX w N a len cap zs) := h
  clear h
  go_enter Tryz.func126, Tryz.ntmps126
  go_wp2_with fail
  refine (l1BelowX (H.out.alloc _) 3 (by decide) (by decide)).mono ?_
  rintro e w1 ⟨⟨k0, rfl, hk0⟩, hd1, hg1⟩
  have hgw : w.grownBy w1 (some N) := grown_trans (grown_alloc (grown_refl _ _) _) hg1
  have hown0 : w1.ownsRow w.heap.size 82 2 (.slice (some ⟨w.heap.size, 0, none⟩) 0 0) 0 (hdCells []) := ownsH_grown (World.ownsRow_made w #[] 0 (Nat.le_refl _) (by decide) rfl) hg1 hlt
  have HD : Hid (DX w1 N a len cap zs) := hd1
  have HG : Hid (w.grownBy w1 (some N)) := hgw
  clear hg1 hgw hd1
  go_wp2
  go_loopw [3, 4] (fun v i wr => ∃ (k : Nat) (hs : List Hd) (n g c : Nat), i = .int .i64 k ∧ v = .slice (some ⟨g, 0, none⟩) n c ∧ n = hs.length ∧ n + k ≤ 2 ∧ FewH n hs ∧ wr.ownsRow w.heap.size 82 2 (.slice (some ⟨g, 0, none⟩) n c) n (hdCells hs) ∧ DX wr N a len cap zs ∧ w.grownBy wr (some N)) (fun _ i _ => (intOf i).toNat)
  case atStart => exact ⟨k0, [], 0, w.heap.size, 0, rfl, rfl, rfl, by omega, ⟨Nat.le_refl _, fun _ h => by cases h⟩, hown0, HD.out, HG.out⟩
  case round =>
    obtain ⟨k, hs, n, g, c, rfl, rfl, hn, hnk, hf, hown, hd, hg⟩ := hrel
    have HN : Hid (n = hs.length) := hn
    have HF : Hid (FewH n hs) := hf
    have HD2 : Hid (DX wr N a len cap zs) := hd
    have HG2 : Hid (w.grownBy wr (some N)) := hg
    clear hn hf hd hg hown0
    by_cases h0 : 0 < k
    · have h0' : (0 : Int) < k := by omega
      go_wp2_with fail
      refine (strNewX HD2.out hNameD _ _ 5 _ rfl rfl rfl (by decide) (by decide) (by decide)).mono ?_
      rintro e w2 ⟨⟨x, rfl, hx⟩, hd2, hg2⟩
      have hown2 := ownsH_grown hown hg2 hlt
      have HG3 : Hid (w.grownBy w2 (some N)) := grown_trans HG2.out hg2
      have HD3 : Hid (DX w2 N a len cap zs) := hd2
      clear hd2 hg2
      go_wp2_with fail
      refine (strNewX HD3.out hValD _ _ 6 _ rfl rfl rfl (by decide) (by decide) (by decide)).mono ?_
      rintro e w3 ⟨⟨y, rfl, hy⟩, hd3, hg3⟩
      have hown3 := ownsH_grown hown2 hg3 hlt
      have HG4 : Hid (w.grownBy w3 (some N)) := grown_trans HG3.out hg3
      have HD4 : Hid (DX w3 N a len cap zs) := hd3
      clear hd3 hg3
      have hsz := HG4.out.size
      go_wp2_with (at_builtin; refine wp_append_head rfl _ _ rfl w.heap.size _ n hs rfl (hown3.alloc _) _ (x, y) rfl ?c0 ?c1 ?c2 ?c3 ?_)
      case c2 => omega
      case c3 => simp; omega
      intro g1 cap1 w4 ho4 hb4
      have HD5 : Hid (DX w4 N a len cap zs) := (HD4.out.alloc _).other hb4.size (fun k hk => hb4.block k (by omega))
      have HG5 : Hid (w.grownBy w4 (some N)) := grown_past (grown_alloc HG4.out _) hb4
      go_wp2
      go_roundw
      case rel => exact ⟨k - 1, hs ++ [(x, y)], n + 1, g1, cap1, by first | go_num | (congr 1; omega), rfl, by rw [List.length_append, ← HN.out]; rfl, by omega, HF.out.snoc (by show x.size ≤ 60; omega) (by show y.size ≤ 60; omega), ho4, HD5.out, HG5.out⟩
      case measure => simp [intOf]; omega
    · have hk : k = 0 := by omega
      subst hk
      go_wp2
      go_ret
      exact ⟨⟨hs, n, g, c, HF.out.mono (by omega), HN.out, rfl, hown⟩, HD2.out, HG2.out⟩

def bodyD : List ByteArray := [⟨#[]⟩, ⟨#[]⟩, ⟨#[97]⟩, ⟨#[104, 101, 108, 108, 111]⟩, ⟨#[60, 97, 47, 62]⟩, ⟨#[13, 10, 13, 10]⟩, ⟨#[120, 0, 255]⟩]
def methD : List ByteArray := [⟨#[71, 69, 84]⟩, ⟨#[80, 85, 84]⟩, ⟨#[77, 75, 67, 79, 76]⟩, ⟨#[68, 69, 76, 69, 84, 69]⟩, ⟨#[67, 79, 80, 89]⟩]
def pathD : List ByteArray := [⟨#[47]⟩, ⟨#[47, 97]⟩, ⟨#[47, 97, 47, 98]⟩, ⟨#[47, 97, 37, 50, 48, 98]⟩, ⟨#[120]⟩]

set_option maxHeartbeats 400000 in
theorem l3Body_any {w : World} {N : Nat} {a : Option Addr} {len cap : Nat} {zs : List Int} (h : DX w N a len cap zs) :
    Calls Tryz.prog 127 #[.pointer (some ⟨N, 0, none⟩)] w fun e w' => (∃ s : ByteArray, e = .returned (.string s) ∧ s.size ≤ 20) ∧ DX w' N a len cap zs ∧ w.grownBy w' (some N) := by
  have H : Hid (DX w N a len cap zs) := h
  clear h
  go_enter Tryz.func127, Tryz.ntmps127
  go_wp2_with fail
  refine (strNewX H.out bodyD _ _ 7 _ rfl rfl rfl (by decide) (by decide) (by decide)).mono ?_
  rintro e w1 ⟨⟨x, rfl, hx⟩, hd1, hg1⟩
  have HD : Hid (DX w1 N a len cap zs) := hd1
  have HG : Hid (w.grownBy w1 (some N)) := hg1
  clear hd1 hg1
  go_wp2
  go_ret
  exact ⟨⟨x, rfl, hx⟩, HD.out, HG.out⟩

theorem ownsH_base {w : World} {B C : Nat} {v : Value} {n : Nat} {xs : List Value} (h : w.ownsRow B 82 2 v n xs) (hC : C ≤ B) : w.ownsRow C 82 2 v n xs := by
  refine ⟨h.1, ?_⟩
  rcases h.2 with h0 | ⟨g, cap, cur, hv, hb, hr⟩
  · exact .inl h0
  · exact .inr ⟨g, cap, cur, hv, Nat.le_trans hC hb, hr⟩
theorem ownsH_set {w : World} {B g n c : Nat} {xs : List Value} {p : Addr} {u : Value} (h : w.ownsRow B 82 2 (.slice (some ⟨g, 0, none⟩) n c) n xs) (hp : p.block ≠ g) : (w.setCell p u).ownsRow B 82 2 (.slice (some ⟨g, 0, none⟩) n c) n xs := by
  refine ⟨h.1, ?_⟩
  rcases h.2 with h0 | ⟨g', cap, cur, hv, hb, hr, hq⟩
  · exact .inl h0
  · cases hv
    exact .inr ⟨g, c, cur, rfl, hb, (heap_setCell_other w p g u (fun e => hp e.symm)).trans hr, hq⟩
theorem DX.set4 {w : World} {N : Nat} {a : Option Addr} {len cap : Nat} {zs : List Int} {p : Addr} {u : Value} (h : DX w N a len cap zs) (hp : N < p.block) : DX (w.setCell p u) N a len cap zs :=
  h.other (by simp) (fun k hk => heap_setCell_other w p k u (by omega))

theorem below_sets {w : World} {C M : Nat} (h : C ≤ M) (a b c d : Value) : Below C w ((((w.setCell ⟨M, 0, none⟩ a).setCell ⟨M, 1, none⟩ b).setCell ⟨M, 2, none⟩ c).setCell ⟨M, 3, none⟩ d) := by
  have h1 : Below C w (w.setCell ⟨M, 0, none⟩ a) := (Below.refl C w).setCell h a
  have h2 : Below C w ((w.setCell ⟨M, 0, none⟩ a).setCell ⟨M, 1, none⟩ b) := h1.setCell h b
  have h3 : Below C w (((w.setCell ⟨M, 0, none⟩ a).setCell ⟨M, 1, none⟩ b).setCell ⟨M, 2, none⟩ c) := h2.setCell h c
  exact h3.setCell h d

/-- A box of four cells that may be written. -/
def Ret4 (w : World) (M : Nat) : Prop := M < w.heap.size ∧ (∃ v, w.cell? ⟨M, 0, none⟩ = some v) ∧ (∃ v, w.cell? ⟨M, 1, none⟩ = some v) ∧ (∃ v, w.cell? ⟨M, 2, none⟩ = some v) ∧ (∃ v, w.cell? ⟨M, 3, none⟩ = some v) ∧ w.frozen? ⟨M, 0, none⟩ = false ∧ w.frozen? ⟨M, 1, none⟩ = false ∧ w.frozen? ⟨M, 2, none⟩ = false ∧ w.frozen? ⟨M, 3, none⟩ = false
theorem Ret4.made (w : World) (T : TypeId) : Ret4 (w.alloc (Obj.cells #[Value.string { data := #[] }, Value.string { data := #[] }, Value.slice none 0 0, Value.string { data := #[] }] T)) w.heap.size :=
  ⟨by simp, ⟨_, by simp; rfl⟩, ⟨_, by simp; rfl⟩, ⟨_, by simp; rfl⟩, ⟨_, by simp; rfl⟩, by simp, by simp, by simp, by simp⟩
theorem Ret4.grown {w w' : World} {M N : Nat} (h : Ret4 w M) (hg : w.grownBy w' (some N)) (hN : N < M) : Ret4 w' M := by
  have hb : w'.heap[M]? = w.heap[M]? := hg.block M h.1 (by simp; omega)
  have hc : ∀ o, w'.cell? ⟨M, o, none⟩ = w.cell? ⟨M, o, none⟩ := fun o => World.cell?_of_block (a := ⟨M, o, none⟩) hb
  have hf : ∀ o, w'.frozen? ⟨M, o, none⟩ = w.frozen? ⟨M, o, none⟩ := fun o => World.frozen?_of_block (a := ⟨M, o, none⟩) hb
  obtain ⟨h0, h1, h2, h3, h4, h5, h6, h7, h8⟩ := h
  exact ⟨Nat.lt_of_lt_of_le h0 hg.size, by rw [hc]; exact h1, by rw [hc]; exact h2, by rw [hc]; exact h3, by rw [hc]; exact h4, by rw [hf]; exact h5, by rw [hf]; exact h6, by rw [hf]; exact h7, by rw [hf]; exact h8⟩
end Go.Proofs.YtanebchmeaomgaaGreatDoor
namespace Go.Proofs.YtanebchmeaomgaaGreatDoor
open Go.RowKit M
set_option linter.unusedVariables false

/-- A drawn request. -/
def DrawnR (w' : World) (B : Nat) (e : Ending) : Prop := ∃ (r : Rq) (g c : Nat), FewH 2 r.hs ∧ r.m.size ≤ 20 ∧ r.p.size ≤ 20 ∧ r.b.size ≤ 20 ∧ e = .returned (.agg #[.string r.m, .string r.p, .slice (some ⟨g, 0, none⟩) r.hs.length c, .string r.b]) ∧ w'.ownsRow B 82 2 (.slice (some ⟨g, 0, none⟩) r.hs.length c) r.hs.length (hdCells r.hs)

set_option maxHeartbeats 2000000 in
theorem l3Draw_any {w : World} {N : Nat} {a : Option Addr} {len cap : Nat} {zs : List Int} (h : DX w N a len cap zs) :
    Calls Tryz.prog 84 #[.pointer (some ⟨N, 0, none⟩)] w fun e w' => DrawnR w' w.heap.size e ∧ DX w' N a len cap zs ∧ w.grownBy w' (some N) := by
  have hlt := h.lt
  have H : Hid (DX w N a len cap zs) := h
  clear h
  go_enter Tryz.func84, Tryz.ntmps84
  have HA : Hid (DX (w.alloc (Obj.cells #[Value.string { data := #[] }, Value.string { data := #[] }, Value.slice none 0 0, Value.string { data := #[] }] 39)) N a len cap zs) := H.out.alloc _
  have HG0 : Hid (w.grownBy (w.alloc (Obj.cells #[Value.string { data := #[] }, Value.string { data := #[] }, Value.slice none 0 0, Value.string { data := #[] }] 39)) (some N)) := grown_alloc (grown_refl _ _) _
  go_wp2_with fail
  refine (strNewX HA.out methD _ _ 5 _ (by simp) rfl rfl (by decide) (by decide) (by decide)).mono ?_
  rintro e w1 ⟨⟨x, rfl, hx⟩, hd1, hg1⟩
  have HD1 : Hid (DX w1 N a len cap zs) := hd1
  have HG1 : Hid (w.grownBy w1 (some N)) := grown_trans HG0.out hg1
  have hz1 : w.heap.size < w1.heap.size := by have := hg1.size; simp at this; omega
  have hr1 : Ret4 w1 w.heap.size := (Ret4.made w 39).grown hg1 (by omega)
  have HR1 := hide hr1
  clear hd1 hg1 hr1
  go_wp2_with fail
  refine (strNewX HD1.out pathD _ _ 5 _ rfl rfl rfl (by decide) (by decide) (by decide)).mono ?_
  rintro e w2 ⟨⟨y, rfl, hy⟩, hd2, hg2⟩
  have HD2 : Hid (DX w2 N a len cap zs) := hd2
  have HG2 : Hid (w.grownBy w2 (some N)) := grown_trans HG1.out hg2
  have HR2 := hide (HR1.out.grown hg2 (by omega))
  have hz2 : w.heap.size < w2.heap.size := by have := hg2.size; omega
  clear hd2 hg2
  go_wp2_with fail
  refine (l3DrawHeads_any HD2.out).mono ?_
  rintro e w3 ⟨⟨hs, n, g, c, hf, hn, rfl, hown⟩, hd3, hg3⟩
  have HD3 : Hid (DX w3 N a len cap zs) := hd3
  have HG3 : Hid (w.grownBy w3 (some N)) := grown_trans HG2.out hg3
  have HR3 := hide (HR2.out.grown hg3 (by omega))
  have HF := hide hf
  have HN := hide hn
  have hz3 : w2.heap.size ≤ w3.heap.size := hg3.size
  clear hd3 hg3 hf hn
  go_wp2_with fail
  refine (l3Body_any HD3.out).mono ?_
  rintro e w4 ⟨⟨z, rfl, hz⟩, hd4, hg4⟩
  have HD4 : Hid (DX w4 N a len cap zs) := hd4
  have HG4 : Hid (w.grownBy w4 (some N)) := grown_trans HG3.out hg4
  have hr4 := HR3.out.grown hg4 (by omega)
  have hown4 := ownsH_grown hown hg4 (by omega)
  have hz4 : w3.heap.size ≤ w4.heap.size := hg4.size
  have HO := hide hown4
  clear hd4 hg4 hown hown4
  obtain ⟨_, ⟨t0, r0⟩, ⟨t1, r1⟩, ⟨t2, r2⟩, ⟨t3, r3⟩, f0, f1, f2, f3⟩ := hr4
  go_wp2
  refine bodyPost_ret (v := .agg #[.string x, .string y, .slice (some ⟨g, 0, none⟩) n c, .string z]) (by simp [results, Tryz.results84, go_sem, r0, r1, r2, r3]) rfl ⟨⟨⟨x, y, hs, z⟩, g, c, HF.out, hx, hy, hz, by rw [← HN.out], ?_⟩, ?_, ?_⟩
  · have h4 := HO.out
    have hgl := (h4.lt g rfl).1
    rw [← HN.out]
    have h5 : w4.ownsRow w.heap.size 82 2 (.slice (some ⟨g, 0, none⟩) n c) n (hdCells hs) := ownsH_base h4 (by omega)
    exact ownsH_set (ownsH_set (ownsH_set (ownsH_set h5 (by simp; omega)) (by simp; omega)) (by simp; omega)) (by simp; omega)
  · exact (((HD4.out.set4 (by simp; omega)).set4 (by simp; omega)).set4 (by simp; omega)).set4 (by simp; omega)
  · exact grown_past HG4.out (below_sets (Nat.le_refl _) _ _ _ _)
end Go.Proofs.YtanebchmeaomgaaGreatDoor
namespace Go.Proofs.YtanebchmeaomgaaGreatDoor
open Go.RowKit M
set_option linter.unusedVariables false

theorem grown_cell {W W' : World} {N b o : Nat} {v : Value} (hg : W.grownBy W' (some N)) (hb : N < b) (hl : b < W.heap.size) (h : W.cell? ⟨b, o, none⟩ = some v) : W'.cell? ⟨b, o, none⟩ = some v :=
  (World.cell?_of_block (a := ⟨b, o, none⟩) (hg.block b hl (by simp; omega))).trans h
theorem lay4 {W : World} {b : Nat} {x0 x1 x2 x3 : ByteArray} (h0 : W.cell? ⟨b, 0, none⟩ = some (.string x0)) (h1 : W.cell? ⟨b, 1, none⟩ = some (.string x1)) (h2 : W.cell? ⟨b, 2, none⟩ = some (.string x2)) (h3 : W.cell? ⟨b, 3, none⟩ = some (.string x3)) :
    ∀ j, j < 4 → W.cell? ⟨b, j, none⟩ = some (.string ([x0, x1, x2, x3].getD j ByteArray.empty))
  | 0, _ => h0
  | 1, _ => h1
  | 2, _ => h2
  | 3, _ => h3
  | _ + 4, h => absurd h (by omega)
theorem lay3 {W : World} {b : Nat} {x0 x1 x2 : ByteArray} (h0 : W.cell? ⟨b, 0, none⟩ = some (.string x0)) (h1 : W.cell? ⟨b, 1, none⟩ = some (.string x1)) (h2 : W.cell? ⟨b, 2, none⟩ = some (.string x2)) :
    ∀ j, j < 3 → W.cell? ⟨b, j, none⟩ = some (.string ([x0, x1, x2].getD j ByteArray.empty))
  | 0, _ => h0
  | 1, _ => h1
  | 2, _ => h2
  | _ + 3, h => absurd h (by omega)
/-- 'append' of a head, as one step of a region that draws. -/
theorem step_append_head {ops : Array Oper} {o : Oper} {a : Act} {W : World} {K : Act → World → Prop} {Q : Exit → Act → World → Prop} {E : Prop} (hg : o.guard = none) (s x : Operand)
    (ho : o.op = .call { callee := .builtin .append, args := #[s, x], argTypes := #[37, 37] })
    (B g n c : Nat) (l : List Hd) (hs : a.eval s = .slice (some ⟨g, 0, none⟩) n c) (hown : W.ownsRow B 82 2 (.slice (some ⟨g, 0, none⟩) n c) n (hdCells l))
    (N : Nat) (h : Hd) (hx : a.eval x = .slice (some ⟨N, 0, none⟩) 1 1) (hc0 : W.cell? ⟨N, 0, none⟩ = some (.string h.1)) (hc1 : W.cell? ⟨N, 1, none⟩ = some (.string h.2)) (hlen : n + 1 ≤ 1099511627776) (hB : B ≤ W.heap.size)
    (hK : ∀ g' c' w', w'.ownsRow B 82 2 (.slice (some ⟨g', 0, none⟩) (n + 1) c') (n + 1) (hdCells (l ++ [h])) → W.grownBy w' (some g) → K (a.put o.dst (.slice (some ⟨g', 0, none⟩) (n + 1) c')) w') :
    if Region.wanted o (yielded ops a.tmps) = true then Oper.wp Tryz.prog o a W K Q else E := by
  have hw : Region.wanted o (yielded ops a.tmps) = true := by simp [Region.wanted, hg]
  rw [if_pos hw]
  obtain ⟨i0, hi, hz0, hz1, hz2⟩ := info_parts infoHd
  refine wp_append_own W s x 37 ho B 82 i0 _ 2 32 Tryz.underlying37 hi hz0 hz1 hz2 rfl (by decide) _ n _ hs hown ⟨N, 0, none⟩ 1 1 [.string h.1, .string h.2] hx rfl ?_ ?_ ?_ ?_ hB ?_
  · intro j u hj
    have e : ∀ k, (⟨N, 0, none⟩ : Addr).add k = ⟨N, k, none⟩ := fun k => by unfold Addr.add; split <;> simp_all
    rw [e]
    match j, hj with
    | 0, hj => simp at hj; subst hj; exact hc0
    | 1, hj => simp at hj; subst hj; exact hc1
  · intro u hu; simp at hu; rcases hu with rfl | rfl <;> rfl
  · unfold maxLen; omega
  · omega
  · intro v' w' ho' hg' _
    obtain ⟨g', c', rfl⟩ : ∃ g' c', v' = .slice (some ⟨g', 0, none⟩) (n + 1) c' := by
      rcases ho'.2 with ⟨_, h0⟩ | ⟨g, cap, cur, hv, _⟩
      · omega
      · exact ⟨g, cap, hv⟩
    refine hK g' c' w' ?_ hg'
    rw [hdCells_append]
    exact ho'
end Go.Proofs.YtanebchmeaomgaaGreatDoor
namespace Go.Proofs.YtanebchmeaomgaaGreatDoor
open Go.RowKit M

set_option maxHeartbeats 400000 in
theorem l1Int_any (N M : Nat) (a : Option Addr) (len cap n : Nat) (zs ls : List Int) (c : St) (w : World) (hc : Cur w N (.slice a len cap) c) (hd : CodeAt w a len zs) (hbN : 0 < len → ∀ b off, a = some ⟨b, off, none⟩ → b < N) (hlen : len ≤ 1048576) (hn : 0 < n) (hn2 : n ≤ 256) (hMN : M ≠ N)
    (hls : ∀ j, j < n → w.cell? ⟨M, j, none⟩ = some (.int .i64 (ls.getD j 0))) :
    Calls Tryz.prog 48 #[.pointer (some ⟨N, 0, none⟩), .slice (some ⟨M, 0, none⟩) n n] w fun e w' => e = .returned (.int .i64 (ls.getD (pick zs len c n) 0)) ∧ Cur w' N (.slice a len cap) (belowS len c n) ∧ w.grownBy w' (some N) := by
  have HB : Hid (Calls Tryz.prog 46 #[.pointer (some ⟨N, 0, none⟩), .int .i64 (n : Int)] w fun e w' => e = .returned (.int .i64 (belowV zs len c n)) ∧ Cur w' N (.slice a len cap) (belowS len c n) ∧ w.grownBy w' (some N)) :=
    l1Below_any N a len cap zs c n w hc hd hbN hlen (by omega) (by omega)
  have HL : Hid (∀ j, j < n → w.cell? ⟨M, j, none⟩ = some (.int .i64 (ls.getD j 0))) := hls
  have hp := pick_lt zs len c n hn
  have ep : belowV zs len c n = (pick zs len c n : Int) := by
    have := belowV_bd zs len c n (by omega)
    unfold pick
    omega
  rw [ep] at HB
  clear hbN hc hd hls ep
  generalize pick zs len c n = p at *
  go_enter Tryz.func48, Tryz.ntmps48
  go_wp2_with fail
  refine HB.out.mono ?_
  rintro e w1 ⟨rfl, hc1, hg1⟩
  have hcx : w1.cell? ⟨M, p, none⟩ = some (.int .i64 (ls.getD p 0)) := hg1.cell (HL.out p hp) (by simpa using hMN)
  have HC1 : Hid (Cur w1 N (.slice a len cap) (belowS len c n)) := hc1
  have HG1 : Hid (w.grownBy w1 (some N)) := hg1
  clear hc1 hg1 HL
  go_wp2
  go_ret
  exact ⟨rfl, HC1.out, HG1.out⟩

end Go.Proofs.YtanebchmeaomgaaGreatDoor
namespace Go.Proofs.YtanebchmeaomgaaGreatDoor
open Go.RowKit M
set_option linter.unusedVariables false

/-- A request of few short parts, in memory of its own. -/
def SmallR (r : Rq) : Prop := FewH 10 r.hs ∧ r.m.size ≤ 20 ∧ r.p.size ≤ 20 ∧ r.b.size ≤ 201
def AnyR (w' : World) (B : Nat) (e : Ending) : Prop := ∃ (r : Rq) (g c : Nat), SmallR r ∧ e = .returned (.agg #[.string r.m, .string r.p, .slice (some ⟨g, 0, none⟩) r.hs.length c, .string r.b]) ∧ w'.ownsRow B 82 2 (.slice (some ⟨g, 0, none⟩) r.hs.length c) r.hs.length (hdCells r.hs)

def anyM : List ByteArray := [⟨#[]⟩, ⟨#[103, 101, 116]⟩, ⟨#[84, 69, 78, 76, 69, 84, 84, 69, 82, 83]⟩, ⟨#[65, 32, 66]⟩]
def anyP : List ByteArray := [⟨#[]⟩, ⟨#[97, 32, 98]⟩, ⟨#[127]⟩]
def anyN : List ByteArray := [⟨#[99, 111, 110, 116, 101, 110, 116, 45, 108, 101, 110, 103, 116, 104]⟩, ⟨#[88]⟩, ⟨#[]⟩, ⟨#[97]⟩]
def anyV : List ByteArray := [⟨#[32, 97]⟩, ⟨#[97]⟩, ⟨#[13, 10]⟩]

/-- A box of a request's four values, which may be written. -/
def RBox (w : World) (M : Nat) (v0 v1 v2 v3 : Value) : Prop := M < w.heap.size ∧ w.cell? ⟨M, 0, none⟩ = some v0 ∧ w.cell? ⟨M, 1, none⟩ = some v1 ∧ w.cell? ⟨M, 2, none⟩ = some v2 ∧ w.cell? ⟨M, 3, none⟩ = some v3 ∧ w.frozen? ⟨M, 0, none⟩ = false ∧ w.frozen? ⟨M, 1, none⟩ = false ∧ w.frozen? ⟨M, 2, none⟩ = false ∧ w.frozen? ⟨M, 3, none⟩ = false
theorem RBox.made (w : World) (v0 v1 v2 v3 : Value) (T : TypeId) : RBox (w.alloc (Obj.cells #[v0, v1, v2, v3] T)) w.heap.size v0 v1 v2 v3 := ⟨by simp, by simp, by simp, by simp, by simp, by simp, by simp, by simp, by simp⟩
theorem RBox.of {w w' : World} {M : Nat} {v0 v1 v2 v3 : Value} (h : RBox w M v0 v1 v2 v3) (hs : w.heap.size ≤ w'.heap.size) (hb : w'.heap[M]? = w.heap[M]?) : RBox w' M v0 v1 v2 v3 := by
  have hc : ∀ o, w'.cell? ⟨M, o, none⟩ = w.cell? ⟨M, o, none⟩ := fun o => World.cell?_of_block (a := ⟨M, o, none⟩) hb
  have hf : ∀ o, w'.frozen? ⟨M, o, none⟩ = w.frozen? ⟨M, o, none⟩ := fun o => World.frozen?_of_block (a := ⟨M, o, none⟩) hb
  obtain ⟨h0, h1, h2, h3, h4, h5, h6, h7, h8⟩ := h
  exact ⟨Nat.lt_of_lt_of_le h0 hs, by rw [hc]; exact h1, by rw [hc]; exact h2, by rw [hc]; exact h3, by rw [hc]; exact h4, by rw [hf]; exact h5, by rw [hf]; exact h6, by rw [hf]; exact h7, by rw [hf]; exact h8⟩
theorem RBox.grown {w w' : World} {M N : Nat} {v0 v1 v2 v3 : Value} (h : RBox w M v0 v1 v2 v3) (hg : w.grownBy w' (some N)) (hN : N < M) : RBox w' M v0 v1 v2 v3 := h.of hg.size (hg.block M h.1 (by simp; omega))
theorem RBox.below {w w' : World} {M C : Nat} {v0 v1 v2 v3 : Value} (h : RBox w M v0 v1 v2 v3) (hb : Below C w w') (hC : M < C) : RBox w' M v0 v1 v2 v3 := h.of hb.size (hb.block M hC)
theorem RBox.set0 {w : World} {M : Nat} {v0 v1 v2 v3 : Value} (h : RBox w M v0 v1 v2 v3) (u : Value) : RBox (w.setCell ⟨M, 0, none⟩ u) M u v1 v2 v3 := by
  obtain ⟨h0, h1, h2, h3, h4, h5, h6, h7, h8⟩ := h
  exact ⟨by simpa using h0, World.cell?_setCell_same _ _ _ h1, (World.cell?_setCell_other _ _ _ _ (by simp)).trans h2, (World.cell?_setCell_other _ _ _ _ (by simp)).trans h3, (World.cell?_setCell_other _ _ _ _ (by simp)).trans h4, by rw [World.frozen?_setCell]; exact h5, by rw [World.frozen?_setCell]; exact h6, by rw [World.frozen?_setCell]; exact h7, by rw [World.frozen?_setCell]; exact h8⟩
theorem RBox.set1 {w : World} {M : Nat} {v0 v1 v2 v3 : Value} (h : RBox w M v0 v1 v2 v3) (u : Value) : RBox (w.setCell ⟨M, 1, none⟩ u) M v0 u v2 v3 := by
  obtain ⟨h0, h1, h2, h3, h4, h5, h6, h7, h8⟩ := h
  exact ⟨by simpa using h0, (World.cell?_setCell_other _ _ _ _ (by simp)).trans h1, World.cell?_setCell_same _ _ _ h2, (World.cell?_setCell_other _ _ _ _ (by simp)).trans h3, (World.cell?_setCell_other _ _ _ _ (by simp)).trans h4, by rw [World.frozen?_setCell]; exact h5, by rw [World.frozen?_setCell]; exact h6, by rw [World.frozen?_setCell]; exact h7, by rw [World.frozen?_setCell]; exact h8⟩
theorem RBox.set2 {w : World} {M : Nat} {v0 v1 v2 v3 : Value} (h : RBox w M v0 v1 v2 v3) (u : Value) : RBox (w.setCell ⟨M, 2, none⟩ u) M v0 v1 u v3 := by
  obtain ⟨h0, h1, h2, h3, h4, h5, h6, h7, h8⟩ := h
  exact ⟨by simpa using h0, (World.cell?_setCell_other _ _ _ _ (by simp)).trans h1, (World.cell?_setCell_other _ _ _ _ (by simp)).trans h2, World.cell?_setCell_same _ _ _ h3, (World.cell?_setCell_other _ _ _ _ (by simp)).trans h4, by rw [World.frozen?_setCell]; exact h5, by rw [World.frozen?_setCell]; exact h6, by rw [World.frozen?_setCell]; exact h7, by rw [World.frozen?_setCell]; exact h8⟩
theorem RBox.set3 {w : World} {M : Nat} {v0 v1 v2 v3 : Value} (h : RBox w M v0 v1 v2 v3) (u : Value) : RBox (w.setCell ⟨M, 3, none⟩ u) M v0 v1 v2 u := by
  obtain ⟨h0, h1, h2, h3, h4, h5, h6, h7, h8⟩ := h
  exact ⟨by simpa using h0, (World.cell?_setCell_other _ _ _ _ (by simp)).trans h1, (World.cell?_setCell_other _ _ _ _ (by simp)).trans h2, (World.cell?_setCell_other _ _ _ _ (by simp)).trans h3, World.cell?_setCell_same _ _ _ h4, by rw [World.frozen?_setCell]; exact h5, by rw [World.frozen?_setCell]; exact h6, by rw [World.frozen?_setCell]; exact h7, by rw [World.frozen?_setCell]; exact h8⟩

/-- All that is known in the course of such a draw: the box of the answer, the box of the request, its heads, the cursor. -/
def ReqT (w : World) (M : Nat) : Prop := ∃ cs fz, w.heap[M]? = some (.cells cs 39 fz)
theorem ReqT.of {w w' : World} {M : Nat} (h : ReqT w M) (hb : w'.heap[M]? = w.heap[M]?) : ReqT w' M := by obtain ⟨cs, fz, e⟩ := h; exact ⟨cs, fz, hb.trans e⟩
theorem ReqT.made (w : World) (cs : Array Value) : ReqT (w.alloc (.cells cs 39)) w.heap.size := ⟨cs, _, heap_alloc_new w _⟩
theorem ReqT.set {w : World} {M : Nat} (h : ReqT w M) (b o : Nat) (u : Value) : ReqT (w.setCell ⟨b, o, none⟩ u) M := by
  by_cases e : b = M
  · subst e
    obtain ⟨cs, fz, e⟩ := h
    rw [setCell_eq_setRow w b o cs _ fz u e]
    exact ⟨_, fz, setRow_heap w b cs _ _ fz e⟩
  · exact h.of (heap_setCell_other w _ M u (fun e' => e e'.symm))
theorem ReqT.other {w : World} {M B g n c : Nat} {xs : List Value} (h : ReqT w M) (ho : w.ownsRow B 82 2 (.slice (some ⟨g, 0, none⟩) n c) n xs) : g ≠ M := by
  rintro rfl
  obtain ⟨cs, fz, e⟩ := h
  rcases ho.2 with ⟨h0, _⟩ | ⟨g', cap', cur, hv, _, hr, _⟩
  · cases h0
  · cases hv
    rw [hr] at e
    injection e with e
    injection e with _ e2
    exact absurd e2 (by decide)

structure Mid (w w1 : World) (N : Nat) (a : Option Addr) (len cap : Nat) (zs : List Int) (M g c : Nat) (r : Rq) : Prop where
  ret : Ret4 w1 w.heap.size
  box : RBox w1 M (.string r.m) (.string r.p) (.slice (some ⟨g, 0, none⟩) r.hs.length c) (.string r.b)
  dx : DX w1 N a len cap zs
  gr : w.grownBy w1 (some N)
  own : w1.ownsRow w.heap.size 82 2 (.slice (some ⟨g, 0, none⟩) r.hs.length c) r.hs.length (hdCells r.hs)
  hN : N < w.heap.size
  hM : w.heap.size < M
  hgM : g ≠ M
  hg0 : g ≠ w.heap.size
  tM : ReqT w1 M
  tR : ReqT w1 w.heap.size

theorem Mid.grown {w w1 w2 : World} {N : Nat} {a : Option Addr} {len cap : Nat} {zs : List Int} {M g c : Nat} {r : Rq} (h : Mid w w1 N a len cap zs M g c r) (hg : w1.grownBy w2 (some N)) (hd : DX w2 N a len cap zs) : Mid w w2 N a len cap zs M g c r :=
  ⟨h.ret.grown hg h.hN, h.box.grown hg (by have := h.hN; have := h.hM; omega), hd, grown_trans h.gr hg, ownsH_grown h.own hg h.hN, h.hN, h.hM, h.hgM, h.hg0, h.tM.of (hg.block M h.box.1 (by simp; have := h.hN; have := h.hM; omega)), h.tR.of (hg.block _ h.ret.1 (by simp; have := h.hN; omega))⟩
theorem Ret4.of {w w' : World} {M : Nat} (h : Ret4 w M) (hs : w.heap.size ≤ w'.heap.size) (hb : w'.heap[M]? = w.heap[M]?) : Ret4 w' M := by
  have hc : ∀ o, w'.cell? ⟨M, o, none⟩ = w.cell? ⟨M, o, none⟩ := fun o => World.cell?_of_block (a := ⟨M, o, none⟩) hb
  have hf : ∀ o, w'.frozen? ⟨M, o, none⟩ = w.frozen? ⟨M, o, none⟩ := fun o => World.frozen?_of_block (a := ⟨M, o, none⟩) hb
  obtain ⟨h0, h1, h2, h3, h4, h5, h6, h7, h8⟩ := h
  exact ⟨Nat.lt_of_lt_of_le h0 hs, by rw [hc]; exact h1, by rw [hc]; exact h2, by rw [hc]; exact h3, by rw [hc]; exact h4, by rw [hf]; exact h5, by rw [hf]; exact h6, by rw [hf]; exact h7, by rw [hf]; exact h8⟩
/-- A store into the request's box. -/
theorem Mid.store {w w1 : World} {N : Nat} {a : Option Addr} {len cap : Nat} {zs : List Int} {M g c g' c' o : Nat} {r r' : Rq} {u : Value} (h : Mid w w1 N a len cap zs M g c r)
    (hb : RBox (w1.setCell ⟨M, o, none⟩ u) M (.string r'.m) (.string r'.p) (.slice (some ⟨g', 0, none⟩) r'.hs.length c') (.string r'.b))
    (ho : (w1.setCell ⟨M, o, none⟩ u).ownsRow w.heap.size 82 2 (.slice (some ⟨g', 0, none⟩) r'.hs.length c') r'.hs.length (hdCells r'.hs)) (hg : g' ≠ M) (hg0 : g' ≠ w.heap.size) : Mid w (w1.setCell ⟨M, o, none⟩ u) N a len cap zs M g' c' r' :=
  ⟨h.ret.of (by simp) (heap_setCell_other _ _ _ _ (by show w.heap.size ≠ M; have := h.hM; omega)), hb, h.dx.set4 (by show N < M; have := h.hN; have := h.hM; omega), grown_past h.gr ((Below.refl _ _).setCell (by show w.heap.size ≤ M; have := h.hM; omega) _), ho, h.hN, h.hM, hg, hg0, h.tM.set _ _ _, h.tR.set _ _ _⟩

theorem Mid.alloc {w w1 : World} {N : Nat} {a : Option Addr} {len cap : Nat} {zs : List Int} {M g c : Nat} {r : Rq} (h : Mid w w1 N a len cap zs M g c r) (o : Obj) : Mid w (w1.alloc o) N a len cap zs M g c r :=
  ⟨h.ret.of (by simp) (((Below.refl w1.heap.size w1).alloc (Nat.le_refl _) o).block _ h.ret.1), h.box.of (by simp) (((Below.refl w1.heap.size w1).alloc (Nat.le_refl _) o).block _ h.box.1), h.dx.alloc o, grown_alloc h.gr o, h.own.alloc o, h.hN, h.hM, h.hgM, h.hg0, h.tM.of (((Below.refl w1.heap.size w1).alloc (Nat.le_refl _) o).block _ h.box.1), h.tR.of (((Below.refl w1.heap.size w1).alloc (Nat.le_refl _) o).block _ h.ret.1)⟩

/-- The end of such a draw. -/
theorem Mid.fin {w w1 : World} {N : Nat} {a : Option Addr} {len cap : Nat} {zs : List Int} {M g c : Nat} {r : Rq} (h : Mid w w1 N a len cap zs M g c r) (hs : SmallR r) (u0 u1 u2 u3 : Value) :
    AnyR ((((w1.setCell ⟨w.heap.size, 0, none⟩ u0).setCell ⟨w.heap.size, 1, none⟩ u1).setCell ⟨w.heap.size, 2, none⟩ u2).setCell ⟨w.heap.size, 3, none⟩ u3) w.heap.size (.returned (.agg #[.string r.m, .string r.p, .slice (some ⟨g, 0, none⟩) r.hs.length c, .string r.b])) ∧ DX ((((w1.setCell ⟨w.heap.size, 0, none⟩ u0).setCell ⟨w.heap.size, 1, none⟩ u1).setCell ⟨w.heap.size, 2, none⟩ u2).setCell ⟨w.heap.size, 3, none⟩ u3) N a len cap zs ∧ w.grownBy ((((w1.setCell ⟨w.heap.size, 0, none⟩ u0).setCell ⟨w.heap.size, 1, none⟩ u1).setCell ⟨w.heap.size, 2, none⟩ u2).setCell ⟨w.heap.size, 3, none⟩ u3) (some N) := by
  have hN := h.hN
  have h0 : (w.heap.size : Nat) ≠ g := fun e => h.hg0 e.symm
  refine ⟨⟨r, g, c, hs, rfl, ?_⟩, ?_, grown_past h.gr (below_sets (Nat.le_refl _) _ _ _ _)⟩
  · exact ownsH_set (ownsH_set (ownsH_set (ownsH_set h.own h0) h0) h0) h0
  · exact (((h.dx.set4 hN).set4 hN).set4 hN).set4 hN

theorem info_u8d : (Tryz.prog.info? 5).map (fun i => (i.zero, i.size, i.bytes)) = some (some (.int .u8 0), 1, 1) := by kernel_rfl
/-- 'string(make([]byte, n))': some text of that length. -/
theorem conv_zeros (w : World) (n : Nat) : ∃ x : ByteArray, x.size = n ∧ (convert 22 9 (.slice (some ⟨w.heap.size, 0, none⟩) n n)).run Tryz.prog (w.alloc (.cells (madeCells #[.int .u8 0] n) 5)) = .ok (.string x) (w.alloc (.cells (madeCells #[.int .u8 0] n) 5)) := by
  refine ⟨⟨(List.replicate n 0).toArray⟩, by show (List.replicate n (0 : UInt8)).toArray.size = n; simp, ?_⟩
  have h := run_convert_bytes_back (P := Tryz.prog) (w.alloc (.cells (madeCells #[.int .u8 0] n) 5)) 22 9 5 ⟨w.heap.size, 0, none⟩ n (List.replicate n 0) Tryz.underlying22 Tryz.underlying5 Tryz.underlying9 (by
    intro j hj
    have hj' : j < n := by simpa using hj
    have e : (⟨w.heap.size, 0, none⟩ : Addr).add j = ⟨w.heap.size, j, none⟩ := by unfold Addr.add; split <;> simp_all
    rw [e, (World.rowIs_made w (.int .u8 0) n 5).cell hj']
    simp)
  rw [List.length_replicate] at h
  exact h

theorem Mid.drew {w w1 : World} {N : Nat} {a : Option Addr} {len cap : Nat} {zs : List Int} {M g c : Nat} {r : Rq} (h : Mid w w1 N a len cap zs M g c r) : Mid w w1.drew N a len cap zs M g c r :=
  ⟨h.ret, h.box, h.dx.other (Nat.le_refl _) (fun _ _ => rfl), ⟨h.gr.os, h.gr.tape, h.gr.output, h.gr.size, h.gr.block⟩, h.own, h.hN, h.hM, h.hgM, h.hg0, h.tM, h.tR⟩

theorem Mid.str {w W : World} {N : Nat} {a : Option Addr} {len cap : Nat} {zs : List Int} {M g c : Nat} {r : Rq} (h : Mid w W N a len cap zs M g c r) (ss : List ByteArray) (n b : Nat) (hb : N < b) (h0 : 0 < n) (h1 : n ≤ 256) (hz : ∀ s ∈ ss, s.size ≤ 20)
    (hls : ∀ j, j < n → W.cell? ⟨b, j, none⟩ = some (.string (ss.getD j ByteArray.empty))) :
    Calls Tryz.prog 63 #[.pointer (some ⟨N, 0, none⟩), .slice (some ⟨b, 0, none⟩) n n] W fun e w' => (∃ s : ByteArray, e = .returned (.string s) ∧ s.size ≤ 20) ∧ Mid w w' N a len cap zs M g c r ∧ W.grownBy w' (some N) := by
  obtain ⟨cu, hd⟩ := h.dx
  refine (l1Str_any N b a len cap n zs ss cu W hd.cur hd.code hd.bN hd.hlen h0 h1 (by omega) hls).mono ?_
  rintro e w1 ⟨rfl, hc1, hg1⟩
  exact ⟨⟨_, rfl, getD_mem ss _ _ (fun s => s.size ≤ 20) hz (by decide)⟩, h.grown hg1 ⟨_, hd.grown hg1 hc1⟩, hg1⟩

theorem ints3 {W : World} {b : Nat} {x0 x1 x2 : Int} (h0 : W.cell? ⟨b, 0, none⟩ = some (.int .i64 x0)) (h1 : W.cell? ⟨b, 1, none⟩ = some (.int .i64 x1)) (h2 : W.cell? ⟨b, 2, none⟩ = some (.int .i64 x2)) :
    ∀ j, j < 3 → W.cell? ⟨b, j, none⟩ = some (.int .i64 ([x0, x1, x2].getD j 0))
  | 0, _ => h0
  | 1, _ => h1
  | 2, _ => h2
  | _ + 3, h => absurd h (by omega)
theorem Mid.int {w W : World} {N : Nat} {a : Option Addr} {len cap : Nat} {zs : List Int} {M g c : Nat} {r : Rq} (h : Mid w W N a len cap zs M g c r) (ls : List Int) (n b : Nat) (hb : N < b) (h0 : 0 < n) (h1 : n ≤ 256) (hz : ∀ s ∈ ls, 0 ≤ s ∧ s ≤ 60)
    (hls : ∀ j, j < n → W.cell? ⟨b, j, none⟩ = some (.int .i64 (ls.getD j 0))) :
    Calls Tryz.prog 48 #[.pointer (some ⟨N, 0, none⟩), .slice (some ⟨b, 0, none⟩) n n] W fun e w' => (∃ k : Nat, e = .returned (.int .i64 k) ∧ k ≤ 60) ∧ Mid w w' N a len cap zs M g c r ∧ W.grownBy w' (some N) := by
  obtain ⟨cu, hd⟩ := h.dx
  refine (l1Int_any N b a len cap n zs ls cu W hd.cur hd.code hd.bN hd.hlen h0 h1 (by omega) hls).mono ?_
  rintro e w1 ⟨rfl, hc1, hg1⟩
  have hq : 0 ≤ ls.getD (pick zs len cu n) 0 ∧ ls.getD (pick zs len cu n) 0 ≤ 60 := getD_mem ls _ _ (fun s => 0 ≤ s ∧ s ≤ 60) hz (by decide)
  exact ⟨⟨(ls.getD (pick zs len cu n) 0).toNat, by rw [Int.toNat_of_nonneg hq.1], by omega⟩, h.grown hg1 ⟨_, hd.grown hg1 hc1⟩, hg1⟩
theorem Mid.less {w W : World} {N : Nat} {a : Option Addr} {len cap : Nat} {zs : List Int} {M g c : Nat} {r : Rq} (h : Mid w W N a len cap zs M g c r) (n : Int) (hn : 0 < n) (hn2 : n ≤ 1000000) :
    Calls Tryz.prog 46 #[.pointer (some ⟨N, 0, none⟩), .int .i64 n] W fun e w' => (∃ k : Nat, e = .returned (.int .i64 k) ∧ (k : Int) < n) ∧ Mid w w' N a len cap zs M g c r := by
  refine (l1BelowX h.dx n hn hn2).mono ?_
  rintro e w1 ⟨hk, hd, hg⟩
  exact ⟨hk, h.grown hg hd⟩

/-- One head more. -/
theorem Mid.pushed {w W w5 : World} {N : Nat} {a : Option Addr} {len cap : Nat} {zs : List Int} {M g c g' c' : Nat} {r : Rq} {h : Hd} (hm : Mid w W N a len cap zs M g c r)
    (ho : w5.ownsRow w.heap.size 82 2 (.slice (some ⟨g', 0, none⟩) (r.hs.length + 1) c') (r.hs.length + 1) (hdCells (r.hs ++ [h]))) (hg : W.grownBy w5 (some g)) :
    Mid w (w5.setCell ⟨M, 2, none⟩ (.slice (some ⟨g', 0, none⟩) (r.hs.length + 1) c')) N a len cap zs M g' c' ⟨r.m, r.p, r.hs ++ [h], r.b⟩ ∧ RBox w5 M (.string r.m) (.string r.p) (.slice (some ⟨g, 0, none⟩) r.hs.length c) (.string r.b) ∧ Ret4 w5 w.heap.size := by
  have hNM : N < M := Nat.lt_trans hm.hN hm.hM
  have hbM := hg.block M hm.box.1 (by simp; exact fun e => hm.hgM e.symm)
  have hbR := hg.block w.heap.size hm.ret.1 (by simp; exact fun e => hm.hg0 e.symm)
  have box5 := hm.box.of hg.size hbM
  have ret5 := hm.ret.of hg.size hbR
  have tM5 := hm.tM.of hbM
  have tR5 := hm.tR.of hbR
  have hgl := hm.own.lt g rfl
  have hgM' := tM5.other ho
  have hgR' := tR5.other ho
  have hMR : w.heap.size ≠ M := by have := hm.hM; omega
  have hlen : (r.hs ++ [h]).length = r.hs.length + 1 := by simp
  have dx5 : DX w5 N a len cap zs := hm.dx.other hg.size (fun k hk => hg.block k (by have := hm.dx.lt; omega) (by simp; have := hm.hN; omega))
  have bel : Below w.heap.size W w5 := ⟨hg.os, hg.tape, hg.output, hg.size, fun k hk => hg.block k (Nat.lt_of_lt_of_le hk hm.gr.size) (by simp; omega)⟩
  refine ⟨⟨ret5.of (by simp) (heap_setCell_other _ _ _ _ hMR), ?_, dx5.set4 hNM, grown_past hm.gr (bel.trans ((Below.refl _ _).setCell (by show w.heap.size ≤ M; have := hm.hM; omega) _)), ?_, hm.hN, hm.hM, hgM', hgR', tM5.set _ _ _, tR5.set _ _ _⟩, box5, ret5⟩
  · show RBox _ M (.string r.m) (.string r.p) (.slice (some ⟨g', 0, none⟩) (r.hs ++ [h]).length c') (.string r.b)
    rw [hlen]
    exact box5.set2 _
  · show (w5.setCell _ _).ownsRow w.heap.size 82 2 (.slice (some ⟨g', 0, none⟩) (r.hs ++ [h]).length c') (r.hs ++ [h]).length (hdCells (r.hs ++ [h]))
    rw [hlen]
    exact ownsH_set ho (fun e => hgM' e.symm)
end Go.Proofs.YtanebchmeaomgaaGreatDoor
namespace Go.Proofs.YtanebchmeaomgaaGreatDoor
open Go.RowKit M
set_option linter.unusedVariables false

set_option maxRecDepth 100000 in
set_option maxHeartbeats 4000000 in
theorem l3Any_any {w : World} {N : Nat} {a : Option Addr} {len cap : Nat} {zs : List Int} (h : DX w N a len cap zs) :
    Calls Tryz.prog 51 #[.pointer (some ⟨N, 0, none⟩)] w fun e w' => AnyR w' w.heap.size e ∧ DX w' N a len cap zs ∧ w.grownBy w' (some N) := by
  have hlt := h.lt
  have H : Hid (DX w N a len cap zs) := h
  clear h
  go_enter Tryz.func51, Tryz.ntmps51
  go_wp2_with fail
  refine (l3Draw_any (w := w.alloc (Obj.cells #[Value.string { data := #[] }, Value.string { data := #[] }, Value.slice none 0 0, Value.string { data := #[] }] 39)) (H.out.alloc _)).mono ?_
  rintro e w1 ⟨⟨r, g, c, q1, q2, q3, q4, rfl, hown⟩, hd1, hg1⟩
  have hz1 : w.heap.size < w1.heap.size := by have := hg1.size; simp at this; omega
  have hgl := hown.lt g rfl
  have hgl1 : w.heap.size < g := by have := hgl.1; simp at this; omega
  have hM : Mid w (w1.alloc (Obj.cells #[Value.string r.m, Value.string r.p, Value.slice (some ⟨g, 0, none⟩) r.hs.length c, Value.string r.b] 39)) N a len cap zs w1.heap.size g c r :=
    ⟨((Ret4.made w 39).grown hg1 hlt).of (by simp) (((Below.refl w1.heap.size w1).alloc (Nat.le_refl _) _).block _ hz1), RBox.made w1 _ _ _ _ _, hd1.alloc _, grown_alloc (grown_trans (grown_alloc (grown_refl _ _) _) hg1) _, ownsH_base (hown.alloc _) (by simp), hlt, hz1, by have := hgl.2; omega, by omega, ReqT.made w1 _, ((ReqT.made w _).of (hg1.block _ (by simp) (by simp; omega))).of (((Below.refl w1.heap.size w1).alloc (Nat.le_refl _) _).block _ hz1)⟩
  have HM := hide hM
  have hrl := q1.1
  have HQ := hide q1
  clear hM hown hd1 hg1 hgl q1
  go_wp2_with fail
  refine (l1BelowX HM.out.dx 12 (by decide) (by decide)).mono ?_
  rintro e w2 ⟨⟨k, rfl, hk⟩, hd2, hg2⟩
  have hm2 := HM.out.grown hg2 hd2
  have HM2 := hide hm2
  clear hm2 hd2 hg2 HM
  by_cases k0 : k = 0
  · subst k0
    go_wp2_with fail
    refine (strNewX HM2.out.dx anyM _ _ 4 _ rfl rfl rfl (by decide) (by decide) (by decide)).mono ?_
    rintro e w3 ⟨⟨x, rfl, hx⟩, hd3, hg3⟩
    have hm3 := HM2.out.grown hg3 hd3
    clear hd3 hg3
    have hm4 := hm3.store (r' := ⟨x, r.p, r.hs, r.b⟩) (hm3.box.set0 (.string x)) (ownsH_set hm3.own (fun e => hm3.hgM e.symm)) hm3.hgM hm3.hg0
    have HM4 := hide hm4
    have hne : ¬ w.heap.size = w1.heap.size := by omega
    have hne' : ¬ w1.heap.size = w.heap.size := by omega
    obtain ⟨_, y0, y1, y2, y3, f0, f1, f2, f3⟩ := hm3.box
    obtain ⟨_, ⟨t0, z0⟩, ⟨t1, z1⟩, ⟨t2, z2⟩, ⟨t3, z3⟩, e0, e1, e2, e3⟩ := hm3.ret
    clear hm3 hm4
    go_wp2
    refine bodyPost_ret (v := .agg #[.string x, .string r.p, .slice (some ⟨g, 0, none⟩) r.hs.length c, .string r.b]) (by simp [results, Tryz.results51, go_sem, z0, z1, z2, z3]) rfl ?_
    exact HM4.out.fin ⟨HQ.out.mono (by decide), by show x.size ≤ 20; omega, q3, by show r.b.size ≤ 201; omega⟩ _ _ _ _
  · have k0' : ((k : Int) == 0) = false := by apply beq_eq_false_iff_ne.2; omega
    by_cases k1 : k = 1
    · subst k1
      go_wp2_with fail
      refine (strNewX HM2.out.dx anyP _ _ 3 _ rfl rfl rfl (by decide) (by decide) (by decide)).mono ?_
      rintro e w3 ⟨⟨x, rfl, hx⟩, hd3, hg3⟩
      have hm3 := HM2.out.grown hg3 hd3
      clear hd3 hg3
      have hm4 := hm3.store (r' := ⟨r.m, x, r.hs, r.b⟩) (hm3.box.set1 (.string x)) (ownsH_set hm3.own (fun e => hm3.hgM e.symm)) hm3.hgM hm3.hg0
      have HM4 := hide hm4
      have hne : ¬ w.heap.size = w1.heap.size := by omega
      have hne' : ¬ w1.heap.size = w.heap.size := by omega
      obtain ⟨_, y0, y1, y2, y3, f0, f1, f2, f3⟩ := hm3.box
      obtain ⟨_, ⟨t0, z0⟩, ⟨t1, z1⟩, ⟨t2, z2⟩, ⟨t3, z3⟩, e0, e1, e2, e3⟩ := hm3.ret
      clear hm3 hm4
      go_wp2
      refine bodyPost_ret (v := .agg #[.string r.m, .string x, .slice (some ⟨g, 0, none⟩) r.hs.length c, .string r.b]) (by simp [results, Tryz.results51, go_sem, z0, z1, z2, z3]) rfl ?_
      exact HM4.out.fin ⟨HQ.out.mono (by decide), q2, by show x.size ≤ 20; omega, by show r.b.size ≤ 201; omega⟩ _ _ _ _
    · have k1' : ((k : Int) == 1) = false := by apply beq_eq_false_iff_ne.2; omega
      by_cases k2 : k = 2
      · subst k2
        have HMd := hide HM2.out.drew
        have hMl := HM2.out.box.1
        have hNl : N < w2.heap.size := HM2.out.dx.lt
        have y20 := HM2.out.box.2.2.2.1
        have hn0 : ¬ w1.heap.size = w2.heap.size := by omega
        have hn1 : ¬ w1.heap.size = w2.heap.size + 1 := by omega
        go_wp2_with fail
        go_region_law (first
          | (refine step_append_head rfl _ _ rfl w.heap.size g r.hs.length c r.hs rfl (MB.out.alloc _).own wB.heap.size (x, y) rfl (by simp) (by simp) (by omega) (by have := MB.out.gr.size; simp; omega) ?_
             intro g5 c5 w5 o5 gr5
             obtain ⟨m5, bx5, rt5⟩ := (MB.out.alloc _).pushed o5 gr5
             have M5 := hide m5
             have RT5 := hide rt5
             have BX5 := hide bx5
             obtain ⟨_, y50, y51, y52, y53, f50, f51, f52, f53⟩ := bx5
             clear m5 rt5)
          | (go_simp
             first
             | (go_at_call_of 63 (4 : Nat)
                refine (Mid.str (by first | exact (HM2.out.alloc _).drew | exact ((HM2.out.alloc _).alloc _).drew) anyN 4 _ (by first | omega | (simp; omega)) (by decide) (by decide) (by decide) (lay4 (by simp) (by simp) (by simp) (by simp))).mono ?_
                rintro e wA ⟨⟨x, rfl, hx⟩, mA, gA⟩
                have hMA := mA.box.1
                have yA := mA.box.2.2.2.1
                have hnA0 : ¬ w1.heap.size = wA.heap.size := by omega
                have hnA1 : ¬ w1.heap.size = wA.heap.size + 1 := by omega
                have MA := hide mA
                have GA := hide gA
                clear mA gA)
             | (go_at_call_of 63 (3 : Nat)
                refine (Mid.str (by first | exact MA.out | exact MA.out.alloc _) anyV 3 _ (by first | omega | (simp; omega)) (by decide) (by decide) (by decide) (lay3 (by first | (simp; done) | exact grown_cell GA.out (by omega) (by first | (simp; done) | (simp; omega)) (by simp; done)) (by first | (simp; done) | exact grown_cell GA.out (by omega) (by first | (simp; done) | (simp; omega)) (by simp; done)) (by first | (simp; done) | exact grown_cell GA.out (by omega) (by first | (simp; done) | (simp; omega)) (by simp; done)))).mono ?_
                rintro e wB ⟨⟨y, rfl, hy⟩, mB, gB⟩
                have hMB := mB.box.1
                have yB := mB.box.2.2.2.1
                have hnB0 : ¬ w1.heap.size = wB.heap.size := by omega
                have MB := hide mB
                clear mB gB)))
        all_goals
          have hne : ¬ w.heap.size = w1.heap.size := by omega
          have hne' : ¬ w1.heap.size = w.heap.size := by omega
          obtain ⟨_, ⟨t0, z0⟩, ⟨t1, z1⟩, ⟨t2, z2⟩, ⟨t3, z3⟩, e0, e1, e2, e3⟩ := RT5.out
          go_wp2
          refine bodyPost_ret (v := .agg #[.string r.m, .string r.p, .slice (some ⟨g5, 0, none⟩) (r.hs.length + 1) c5, .string r.b]) (by simp [results, Tryz.results51, go_sem, z0, z1, z2, z3]) rfl ?_
          have hf := fun u0 u1 u2 u3 => M5.out.fin ⟨(HQ.out.snoc (h := (x, y)) (by show x.size ≤ 60; omega) (by show y.size ≤ 60; omega)).mono (by decide), q2, q3, by show r.b.size ≤ 201; omega⟩ u0 u1 u2 u3
          simp only [List.length_append, List.length_cons, List.length_nil, Nat.zero_add] at hf
          exact hf _ _ _ _
      · have k2' : ((k : Int) == 2) = false := by apply beq_eq_false_iff_ne.2; omega
        by_cases k3 : k = 3
        · subst k3
          go_wp2_with fail
          refine (l1BelowX HM2.out.dx 2 (by decide) (by decide)).mono ?_
          rintro e w3 ⟨⟨q, rfl, hq⟩, hd3, hg3⟩
          have hm3 := HM2.out.grown hg3 hd3
          have HM3 := hide hm3
          clear hd3 hg3
          obtain ⟨n, hn⟩ : ∃ n : Nat, n = 200 + q := ⟨_, rfl⟩
          have hn' : ((200 : Int) + (q : Int)) = ((n : Nat) : Int) := by omega
          have hnb : n ≤ 201 := by omega
          have hw : IntKind.i64.wrap (200 + (q : Int)) = (n : Int) := by rw [IntKind.wrap_i64]; omega
          have HN := hide hn
          clear hn hn'
          have hmk := run_make_row' (P := Tryz.prog) 22 5 (.int .u8 0) 1 Tryz.underlying22 info_u8d rfl .i64 .i64 n (by omega) (by omega) w3
          obtain ⟨x, hxz, hcv⟩ := conv_zeros w3 n
          have hm3' := HM3.out.alloc (.cells (madeCells #[.int .u8 0] n) 5)
          obtain ⟨w4, hw4⟩ : ∃ w4, w3.alloc (.cells (madeCells #[.int .u8 0] n) 5) = w4 := ⟨_, rfl⟩
          rw [hw4] at hm3' hcv hmk
          have hxz' : x.size ≤ 201 := by omega
          have HZ := hide hxz
          clear hxz
          have hm4 := hm3'.store (r' := ⟨r.m, r.p, r.hs, x⟩) (hm3'.box.set3 (.string x)) (ownsH_set hm3'.own (fun e => hm3'.hgM e.symm)) hm3'.hgM hm3'.hg0
          have HM4 := hide hm4
          have hne : ¬ w.heap.size = w1.heap.size := by omega
          have hne' : ¬ w1.heap.size = w.heap.size := by omega
          obtain ⟨_, y0, y1, y2, y3, f0, f1, f2, f3⟩ := hm3'.box
          obtain ⟨_, ⟨t0, z0⟩, ⟨t1, z1⟩, ⟨t2, z2⟩, ⟨t3, z3⟩, e0, e1, e2, e3⟩ := hm3'.ret
          clear hm3' hm4 hm3
          go_wp2
          refine bodyPost_ret (v := .agg #[.string r.m, .string r.p, .slice (some ⟨g, 0, none⟩) r.hs.length c, .string x]) (by simp [results, Tryz.results51, go_sem, z0, z1, z2, z3]) rfl ?_
          exact HM4.out.fin ⟨HQ.out.mono (by decide), q2, q3, hxz'⟩ _ _ _ _
        · have k3' : ((k : Int) == 3) = false := by apply beq_eq_false_iff_ne.2; omega
          by_cases k4 : k = 4
          · subst k4
            have HQ9 : Hid (FewH 9 r.hs) := HQ.out.mono (by decide)
            clear hk k0 k0' k1 k1' k2 k2' k3 k3' hrl hgl1
            go_wp2_with fail
            go_loopw [] (fun wr => ∃ (hs : List Hd) (g' c' : Nat), FewH 9 hs ∧ Mid w wr N a len cap zs w1.heap.size g' c' ⟨r.m, r.p, hs, r.b⟩) (fun wr => match wr.cell? ⟨w1.heap.size, 2, none⟩ with | some (.slice _ n _) => 10 - n | _ => 0)
            case atStart => exact ⟨r.hs, g, c, HQ9.out, HM2.out⟩
            case round =>
              obtain ⟨hs, g', c', hf, hm⟩ := hrel
              have HMr := hide hm
              have HF := hide hf
              have hl9 := hf.1
              have yr := hm.box.2.2.2.1
              have yr' : wr.cell? ⟨w1.heap.size, 2, none⟩ = some (.slice (some ⟨g', 0, none⟩) hs.length c') := yr
              clear hm hf yr
              go_wp2_with fail
              go_region_law (
                go_simp
                go_at_call 46
                refine (HMr.out.drew.less 2 (by decide) (by decide)).mono ?_
                rintro e w3 ⟨⟨q, rfl, hq⟩, m3⟩
                have y3 : w3.cell? ⟨w1.heap.size, 2, none⟩ = some (.slice (some ⟨g', 0, none⟩) hs.length c') := m3.box.2.2.2.1
                have hw : IntKind.i64.wrap (8 + (q : Int)) = 8 + q := by rw [IntKind.wrap_i64]; omega
                have M3 := hide m3
                clear m3)
              all_goals
                by_cases hc : (hs.length : Int) < 8 + q
                · have hMl3 := M3.out.box.1
                  have hNl3 : N < w3.heap.size := M3.out.dx.lt
                  have hn0 : ¬ w1.heap.size = w3.heap.size := by omega
                  have hn1 : ¬ w1.heap.size = w3.heap.size + 1 := by omega
                  go_wp2_with fail
                  go_region_law (first
                    | (refine step_append_head rfl _ _ rfl w.heap.size g' hs.length c' hs rfl (MA.out.alloc _).own wA.heap.size (_, _) rfl (by simp; rfl) (by simp; rfl) (by omega) (by have := MA.out.gr.size; simp; omega) ?_
                       intro g5 c5 w5 o5 gr5
                       obtain ⟨m5, bx5, rt5⟩ := (MA.out.alloc _).pushed o5 gr5
                       have M5 := hide m5
                       have RT5 := hide rt5
                       have BX5 := hide bx5
                       obtain ⟨_, y50, y51, y52, y53, f50, f51, f52, f53⟩ := bx5
                       clear m5 rt5)
                    | (go_simp
                       go_at_call 48
                       refine (Mid.int (by exact (M3.out.alloc _).drew) [0, 9, 60] 3 _ (by first | omega | (simp; omega)) (by decide) (by decide) (by decide) (ints3 (by simp) (by simp) (by simp))).mono ?_
                       rintro e wA ⟨⟨x, rfl, hx⟩, mA, gA⟩
                       have hMA := mA.box.1
                       have yA : wA.cell? ⟨w1.heap.size, 2, none⟩ = some (.slice (some ⟨g', 0, none⟩) hs.length c') := mA.box.2.2.2.1
                       have hnA0 : ¬ w1.heap.size = wA.heap.size := by omega
                       have hx0 : (0 : Int) ≤ x := by omega
                       have hx6 : (x : Int) ≤ 60 := by omega
                       have MA := hide mA
                       clear mA gA))
                  all_goals
                    have HF8 : Hid (FewH 8 hs) := ⟨by omega, HF.out.2⟩
                    have hcell := World.cell?_setCell_same w5 ⟨w1.heap.size, 2, none⟩ (.slice (some ⟨g5, 0, none⟩) (hs.length + 1) c5) y52
                    go_wp2
                    go_roundw
                    case rel => exact ⟨_, g5, c5, HF8.out.snoc (show (⟨#[120]⟩ : ByteArray).size ≤ 60 by decide) (by simp [ByteArray.size_extract]; omega), M5.out⟩
                    case measure => rw [hcell, yr']; show 10 - (hs.length + 1) < 10 - hs.length; omega
                · have hlen9 : hs.length ≤ 10 := by omega
                  have hne : ¬ w.heap.size = w1.heap.size := by omega
                  have hne' : ¬ w1.heap.size = w.heap.size := by omega
                  obtain ⟨_, y0, y1, y2, y3, f0, f1, f2, f3⟩ := M3.out.box
                  obtain ⟨_, ⟨t0, z0⟩, ⟨t1, z1⟩, ⟨t2, z2⟩, ⟨t3, z3⟩, e0, e1, e2, e3⟩ := M3.out.ret
                  simp only at y0 y1 y2 y3
                  go_wp2
                  refine bodyPost_ret (v := .agg #[.string r.m, .string r.p, .slice (some ⟨g', 0, none⟩) hs.length c', .string r.b]) (by simp [results, Tryz.results51, go_sem, z0, z1, z2, z3]) rfl ?_
                  exact M3.out.fin ⟨HF.out.mono (by decide), q2, q3, by show r.b.size ≤ 201; omega⟩ _ _ _ _
          · have k4' : ((k : Int) == 4) = false := by apply beq_eq_false_iff_ne.2; omega
            have HM4 := HM2
            have hm3 := HM2.out
            have hne : ¬ w.heap.size = w1.heap.size := by omega
            have hne' : ¬ w1.heap.size = w.heap.size := by omega
            obtain ⟨_, y0, y1, y2, y3, f0, f1, f2, f3⟩ := hm3.box
            obtain ⟨_, ⟨t0, z0⟩, ⟨t1, z1⟩, ⟨t2, z2⟩, ⟨t3, z3⟩, e0, e1, e2, e3⟩ := hm3.ret
            clear hm3
            go_wp2
            refine bodyPost_ret (v := .agg #[.string r.m, .string r.p, .slice (some ⟨g, 0, none⟩) r.hs.length c, .string r.b]) (by simp [results, Tryz.results51, go_sem, z0, z1, z2, z3]) rfl ?_
            exact HM4.out.fin ⟨HQ.out.mono (by decide), q2, q3, by show r.b.size ≤ 201; omega⟩ _ _ _ _
end Go.Proofs.YtanebchmeaomgaaGreatDoor
namespace Go.Proofs.YtanebchmeaomgaaGreatDoor
open Go.RowKit M

set_option maxHeartbeats 400000 in
theorem l1Once_any (N : Nat) (a : Option Addr) (len cap : Nat) (zs : List Int) (c : St) (n : Int) (w : World) (hc : Cur w N (.slice a len cap) c) (hd : CodeAt w a len zs) (hbN : 0 < len → ∀ b off, a = some ⟨b, off, none⟩ → b < N) (hlen : len ≤ 1048576) (hn : 0 < n) (hn2 : n ≤ 1000000) :
    Calls Tryz.prog 47 #[.pointer (some ⟨N, 0, none⟩), .int .i64 n] w fun e w' => e = .returned (.bool (belowV zs len c n == 0)) ∧ Cur w' N (.slice a len cap) (belowS len c n) ∧ w.grownBy w' (some N) := by
  have HB : Hid (∀ W, Cur W N (.slice a len cap) c → CodeAt W a len zs → Calls Tryz.prog 46 #[.pointer (some ⟨N, 0, none⟩), .int .i64 n] W fun e w' => e = .returned (.int .i64 (belowV zs len c n)) ∧ Cur w' N (.slice a len cap) (belowS len c n) ∧ W.grownBy w' (some N)) :=
    fun W h1 h2 => l1Below_any N a len cap zs c n W h1 h2 hbN hlen hn hn2
  have HC : Hid (Cur w N (.slice a len cap) c) := hc
  have HD : Hid (CodeAt w a len zs) := hd
  clear hbN hc hd
  generalize belowV zs len c n = v at *
  go_enter Tryz.func47, Tryz.ntmps47
  go_wp2_with (go_at_call 46; refine (HB.out _ HC.out HD.out).mono ?_; rintro e w1 ⟨rfl, hc1, hg1⟩)
  go_ret
  exact ⟨rfl, hc1, hg1⟩
end Go.Proofs.YtanebchmeaomgaaGreatDoor
namespace Go.Proofs.YtanebchmeaomgaaGreatDoor
open Go.RowKit

/-- The bytes that a slice holds, in a block below B. -/
def Byt (w : World) (B : Nat) (a : Option Addr) (l : List UInt8) : Prop :=
  0 < l.length → ∃ b o, a = some ⟨b, o, none⟩ ∧ b < B ∧ ∀ j (hj : j < l.length), w.cell? ⟨b, o + j, none⟩ = some (.int .u8 l[j].toNat)

theorem Byt.below {w w' : World} {B C : Nat} {a : Option Addr} {l : List UInt8} (h : Byt w B a l) (hb : Below C w w') (hB : B ≤ C) : Byt w' B a l := fun h0 => by
  obtain ⟨b, o, e, hbB, hc⟩ := h h0
  exact ⟨b, o, e, hbB, fun j hj => (hb.cell (p := ⟨b, o + j, none⟩) (Nat.lt_of_lt_of_le hbB hB)).trans (hc j hj)⟩
theorem Byt.mono {w : World} {B C : Nat} {a : Option Addr} {l : List UInt8} (h : Byt w B a l) (hB : B ≤ C) : Byt w C a l := fun h0 => by
  obtain ⟨b, o, e, hbB, hc⟩ := h h0
  exact ⟨b, o, e, Nat.lt_of_lt_of_le hbB hB, hc⟩
theorem Byt.take {w : World} {B : Nat} {a : Option Addr} {l : List UInt8} (h : Byt w B a l) (k : Nat) : Byt w B a (l.take k) := fun h0 => by
  have hl : (l.take k).length ≤ l.length := by rw [List.length_take]; omega
  obtain ⟨b, o, e, hbB, hc⟩ := h (by omega)
  exact ⟨b, o, e, hbB, fun j hj => by rw [hc j (by omega), List.getElem_take]⟩
theorem Byt.drop {w : World} {B b o : Nat} {l : List UInt8} (h : Byt w B (some ⟨b, o, none⟩) l) (k : Nat) : Byt w B (some ⟨b, o + k, none⟩) (l.drop k) := fun h0 => by
  have hl : (l.drop k).length = l.length - k := List.length_drop
  obtain ⟨b', o', e, hbB, hc⟩ := h (by omega)
  cases e
  exact ⟨b, o + k, rfl, hbB, fun j hj => by rw [Nat.add_assoc, hc (k + j) (by omega), List.getElem_drop]⟩
theorem Byt.nil (w : World) (B : Nat) (a : Option Addr) : Byt w B a [] := fun h => absurd h (Nat.lt_irrefl _)
theorem Byt.drew {w : World} {B : Nat} {a : Option Addr} {l : List UInt8} (h : Byt w B a l) : Byt w.drew B a l := h

/-- 'string(b)' of such a slice. -/
theorem conv_byt {w : World} {B : Nat} {a : Option Addr} {l : List UInt8} (h : Byt w B a l) (n cap : Nat) (hn : l.length = n) :
    (convert 22 9 (.slice a n cap)).run Tryz.prog w = .ok (.string ⟨l.toArray⟩) w := by
  subst hn
  by_cases h0 : 0 < l.length
  · obtain ⟨b, o, rfl, _, hc⟩ := h h0
    refine run_convert_bytes_back w 22 9 5 _ cap l Tryz.underlying22 Tryz.underlying5 Tryz.underlying9 ?_
    intro j hj
    have : (⟨b, o, none⟩ : Addr).add j = ⟨b, o + j, none⟩ := by unfold Addr.add; split <;> simp_all
    rw [this]; exact hc j hj
  · have : l = [] := List.length_eq_zero_iff.1 (by omega)
    subst this
    cases a with
    | none => exact run_convert_bytes_nil w 22 5 Tryz.underlying22 Tryz.underlying5 0 cap 9 Tryz.underlying9
    | some x => exact run_convert_bytes_back w 22 9 5 x cap [] Tryz.underlying22 Tryz.underlying5 Tryz.underlying9 (fun j hj => absurd hj (Nat.not_lt_zero _))
end Go.Proofs.YtanebchmeaomgaaGreatDoor
namespace Go.Proofs.YtanebchmeaomgaaGreatDoor
open Go.RowKit
set_option linter.unusedVariables false

/-- Stores into a row that is frozen behind its end alone. -/
theorem storeCells_behind (P : Program) (g o : Nat) (t : TypeId) (fz : Nat × Nat) : ∀ (vs : List Value) (i : Nat) (cur : Array Value) (w : World), w.heap[g]? = some (.cells cur t fz) → (fz.2 = 0 ∨ cur.size ≤ fz.1) → o + i + vs.length ≤ cur.size → (∀ v ∈ vs, v.oneCell' = true) →
    (storeCells ⟨g, o, none⟩ vs i).run P w = .ok () (w.setRow g (cur.toList.take (o + i) ++ vs ++ cur.toList.drop (o + i + vs.length)).toArray) := by
  intro vs
  induction vs with
  | nil =>
    intro i cur w hg _ _ _
    simp only [storeCells, List.append_nil, List.length_nil, Nat.add_zero, List.take_append_drop, Array.toArray_toList]
    rw [setRow_self w g cur t fz hg]
    rfl
  | cons v rest ih =>
    intro i cur w hg hfz hl h1
    have hi : o + i < cur.size := by simp at hl; omega
    have hadd : (⟨g, o, none⟩ : Addr).add i = ⟨g, o + i, none⟩ := by unfold Addr.add; split <;> simp_all
    have hcell : w.cell? ⟨g, o + i, none⟩ = some cur[o + i] := by simp [World.cell?, hg, hi]
    have hfro : w.frozen? ⟨g, o + i, none⟩ = false := by
      obtain ⟨lo, hi'⟩ := fz
      simp only [World.frozen?, hg, Bool.and_eq_false_iff, decide_eq_false_iff_not]
      simp only at hfz
      omega
    have hst : (store ((⟨g, o, none⟩ : Addr).add i) v).run P w = .ok () (w.setRow g (cur.setIfInBounds (o + i) v)) := by
      rw [hadd, run_store P w _ v _ (h1 v (by simp)), hcell]
      simp [hfro, setCell_eq_setRow w g (o + i) cur t fz v hg]
    have ih2 := ih (i + 1) (cur.setIfInBounds (o + i) v) (w.setRow g (cur.setIfInBounds (o + i) v)) (setRow_heap w g cur _ t _ hg) (by simpa using hfz) (by simp at hl ⊢; omega) (fun x hx => h1 x (by simp [hx]))
    simp only [storeCells, Sem.run_bind, hst, Result.andThen_ok, ih2, setRow_setRow]
    congr 3
    have e := list_seg_step cur.toList (o + i) v rest (by simp at hl ⊢; omega)
    simpa [Array.toList_setIfInBounds, Nat.add_assoc] using e

/-- The slice v holds the bytes l, in a row of the call's own, from B on. -/
def OwnY (w : World) (B : Nat) (v : Value) (l : List UInt8) : Prop :=
  ∃ g cap cur fz, v = .slice (some ⟨g, 0, none⟩) l.length cap ∧ B ≤ g ∧ w.heap[g]? = some (.cells cur 5 fz) ∧ (fz.2 = 0 ∨ cur.size ≤ fz.1) ∧ l.length ≤ cap ∧ cap ≤ maxLen ∧ cur.size = cap ∧ cur.toList.take l.length = Lib.byteCells l

theorem OwnY.byt {w : World} {B : Nat} {v : Value} {l : List UInt8} (h : OwnY w B v l) : ∃ g c, v = .slice (some ⟨g, 0, none⟩) l.length c ∧ B ≤ g ∧ g < w.heap.size ∧ l.length ≤ c ∧ c ≤ maxLen ∧ Byt w w.heap.size (some ⟨g, 0, none⟩) l := by
  obtain ⟨g, cap, cur, fz, hv, hB, hg, _, h1, h2, h3, h4⟩ := h
  have hlt : g < w.heap.size := (Array.getElem?_eq_some_iff.1 hg).1
  refine ⟨g, cap, hv, hB, hlt, h1, h2, fun _ => ⟨g, 0, rfl, hlt, fun j hj => ?_⟩⟩
  rw [Nat.zero_add]
  have hx : cur.toList[j]? = some (.int .u8 l[j].toNat) := by
    have e : (cur.toList.take l.length)[j]? = cur.toList[j]? := by rw [List.getElem?_take, if_pos hj]
    rw [← e, h4]
    simp [Lib.byteCells, List.getElem?_eq_getElem hj]
  simp [World.cell?, hg]
  simpa using hx
theorem OwnY.next {w w' : World} {B : Nat} {v : Value} {l : List UInt8} (h : OwnY w B v l) (hb : Below w.heap.size w w') : OwnY w' B v l := by
  obtain ⟨g, cap, cur, fz, hv, hB, hg, hr⟩ := h
  exact ⟨g, cap, cur, fz, hv, hB, (hb.block g (Array.getElem?_eq_some_iff.1 hg).1).trans hg, hr⟩
theorem OwnY.base {w : World} {B C : Nat} {v : Value} {l : List UInt8} (h : OwnY w B v l) (hC : C ≤ B) : OwnY w C v l := by
  obtain ⟨g, cap, cur, fz, hv, hB, hr⟩ := h
  exact ⟨g, cap, cur, fz, hv, Nat.le_trans hC hB, hr⟩

theorem infoU8 : (Tryz.prog.info? 5).map (fun i => (i.zero, i.size, i.bytes)) = some (some (.int .u8 0), 1, 1) := by kernel_rfl

theorem strCells_byte (s : ByteArray) : Lib.strCells s = Lib.byteCells s.data.toList := rfl

/-- 'append(b, s...)' of a text. -/
theorem run_append_text (w : World) (B : Nat) (v : Value) (l : List UInt8) (ty : TypeId) (h : OwnY w B v l) (s : ByteArray) (hs : l.length + s.size ≤ 4398046511104) (hB : B ≤ w.heap.size) :
    ∃ v' w', (Builtin.append_ #[22, 9] ty #[v, .string s]).run Tryz.prog w = .ok v' w' ∧ OwnY w' B v' (l ++ s.data.toList) ∧ w.grownBy w' v.ownBlock ∧ (v'.ownBlock = v.ownBlock ∨ v'.ownBlock = some w.heap.size) := by
  obtain ⟨i0, hi, hz0, hz1, hz2⟩ := info_parts infoU8
  obtain ⟨g, cap, cur, fz, rfl, hBg, hg, hfz, hn, hcm, hcs, htake⟩ := h
  have hlen : (l ++ s.data.toList).length = l.length + s.size := by rw [List.length_append]; congr 1
  have hgl : g < w.heap.size := (Array.getElem?_eq_some_iff.1 hg).1
  by_cases hroom : l.length + s.size ≤ cap
  · have hf := Lib.run_firstCells_string (P := Tryz.prog) w 1 s
    have hst := storeCells_behind Tryz.prog g l.length 5 fz (Lib.strCells s) 0 cur w hg hfz (by rw [Lib.strCells_length]; omega) (Lib.strCells_oneCell s)
    simp only [Nat.add_zero, Lib.strCells_length] at hst
    refine ⟨.slice (some ⟨g, 0, none⟩) (l.length + s.size) cap, w.setRow g (cur.toList.take l.length ++ Lib.strCells s ++ cur.toList.drop (l.length + s.size)).toArray, ?_, ?_, ?_⟩
    · simp [Builtin.append_, run_underlying Tryz.underlying22, run_underlying Tryz.underlying9, sizeOf, typeInfo, hi, hz1, Builtin.lenOf, hroom, hf, Addr.add_lit, hst]
    · refine ⟨g, cap, _, fz, by rw [hlen], hBg, setRow_heap w g cur _ 5 _ hg, ?_, by omega, hcm, ?_, ?_⟩
      · rcases hfz with hfz | hfz
        · exact .inl hfz
        · right
          simp only [List.size_toArray, List.length_append, List.length_take, List.length_drop, Array.length_toList, Lib.strCells_length]
          omega
      · simp only [List.size_toArray, List.length_append, List.length_take, List.length_drop, Array.length_toList, Lib.strCells_length]
        omega
      · rw [htake, strCells_byte, Lib.byteCells_append]
        have : (l ++ s.data.toList).length = (Lib.byteCells l ++ Lib.byteCells s.data.toList).length := by rw [List.length_append, List.length_append, Lib.byteCells_length, Lib.byteCells_length]
        rw [this]
        exact List.take_left
    · exact ⟨⟨rfl, rfl, rfl, by simp, fun k _ hk => setRow_other w g k _ (fun e => hk (by simp [Value.ownBlock, e]))⟩, .inl rfl⟩
  · have holds : ∀ j u, (Lib.byteCells l)[j]? = some u → w.cell? ((⟨g, 0, none⟩ : Addr).add j) = some u := by
      intro j u hu
      have hadd : (⟨g, 0, none⟩ : Addr).add j = ⟨g, j, none⟩ := by unfold Addr.add; split <;> simp_all
      rw [hadd, ← htake] at *
      rw [List.getElem?_take] at hu
      split at hu
      · simp [World.cell?, hg]; simpa using hu
      · cases hu
    have hr := Lib.run_append_grow_string (P := Tryz.prog) w 22 9 ty 5 i0 (.int .u8 0) Tryz.underlying22 Tryz.underlying9 hi hz0 ⟨g, 0, none⟩ l.length cap (Lib.byteCells l) (by rw [hz1, Lib.byteCells_length, Nat.mul_one]) holds s (by omega) (by omega) (by rw [hz2]; exact growslice_fits (by omega) (by omega))
    have hge := grownCap_ge w (l.length + s.size) cap 5
    have hcm2 : grownCap w (l.length + s.size) cap 5 ≤ maxLen := grownCap_le_maxLen w (l.length + s.size) cap 5 (by unfold maxLen; omega)
    refine ⟨_, _, hr, ⟨w.heap.size, _, _, (0, 0), by rw [hlen], hB, heap_alloc_new w.drew _, .inl rfl, by omega, hcm2, ?_, ?_⟩, ⟨rfl, rfl, rfl, by simp, fun k hk _ => ((Below.refl w.drew.heap.size w.drew).alloc (Nat.le_refl _) _).block k (by show k < w.heap.size; omega)⟩, .inr rfl⟩
    · have hz1' : (Value.int IntKind.u8 0).cells.size = 1 := rfl
      simp only [Array.size_append, List.size_toArray, size_zeroCells, hz1', Lib.byteCells_length, Lib.strCells_length]
      omega
    · simp only [Array.toList_append, List.append_assoc]
      rw [← List.append_assoc, strCells_byte, ← Lib.byteCells_append]
      have : (l ++ s.data.toList).length = (Lib.byteCells (l ++ s.data.toList)).length := by rw [Lib.byteCells_length]
      rw [this]
      exact List.take_left

theorem wp_append_text {w : World} {ops : Array Oper} {rest : List Oper} {o : Oper} {a : Act} {Q : Exit → Act → World → Prop} (hgd : o.guard = none) (sl x : Operand)
    (ho : o.op = .call { callee := .builtin .append, args := #[sl, x], argTypes := #[22, 9] })
    (B : Nat) (v : Value) (l : List UInt8) (hs : a.eval sl = v) (hown : OwnY w B v l) (s : ByteArray) (hx : a.eval x = .string s) (hlen : l.length + s.size ≤ 4398046511104) (hB : B ≤ w.heap.size)
    (h : ∀ v' w', OwnY w' B v' (l ++ s.data.toList) → w.grownBy w' v.ownBlock → (v'.ownBlock = v.ownBlock ∨ v'.ownBlock = some w.heap.size) → wpList Tryz.prog ops Q rest (a.put o.dst v') w') : wpList Tryz.prog ops Q (o :: rest) a w := by
  refine wpList_plain hgd fun K hK => ?_
  obtain ⟨v', w', hr, h2, h3, h4⟩ := run_append_text w B v l o.type hown s hlen hB
  unfold Oper.wp execOp
  simp only [ho, resolve, invoke, builtin, Sem.run_bind, Sem.run_pure, Result.andThen_ok, List.map_toArray, List.map_cons, List.map_nil, hs, hx, hr]
  exact hK _ _ (h v' w' h2 h3 h4)

theorem OwnY.lt {w : World} {B : Nat} {v : Value} {l : List UInt8} (h : OwnY w B v l) : ∀ k, v.ownBlock = some k → B ≤ k ∧ k < w.heap.size := by
  obtain ⟨g, cap, cur, fz, rfl, hB, hg, _⟩ := h
  intro k hk
  simp [Value.ownBlock] at hk
  subst hk
  exact ⟨hB, (Array.getElem?_eq_some_iff.1 hg).1⟩
theorem OwnY.grown {w w' : World} {B : Nat} {v : Value} {l : List UInt8} (h : OwnY w B v l) (hB : B ≤ w.heap.size) (hg : w.grownBy w' v.ownBlock) : Below B w w' :=
  ⟨hg.os, hg.tape, hg.output, hg.size, fun k hk => hg.block k (Nat.lt_of_lt_of_le hk hB) (fun e => by have := h.lt k e.symm; omega)⟩

/-- '[]byte(s)'. -/
theorem OwnY.made (w : World) (s : ByteArray) (hs : s.size ≤ 4398046511104) : OwnY (Lib.bytesWorld w 5 s) w.heap.size (.slice (some ⟨w.heap.size, 0, none⟩) s.size (grownCap w s.size 0 5)) s.data.toList := by
  have hlen : s.data.toList.length = s.size := Array.length_toList
  refine ⟨w.heap.size, grownCap w s.size 0 5, Lib.bytesCells w 5 s, _, by rw [hlen], Nat.le_refl _, Lib.bytesWorld_at_new w 5 s, .inr (Nat.le_refl _), by rw [hlen]; exact grownCap_ge w s.size 0 5, grownCap_le_maxLen w s.size 0 5 (by unfold maxLen; omega), ?_, ?_⟩
  · have hge := grownCap_ge w s.size 0 5
    have : s.data.size = s.size := rfl
    simp only [Lib.bytesCells, Array.size_append, Array.size_map, Array.size_replicate]
    omega
  · have e : (Lib.bytesCells w 5 s).toList = Lib.byteCells s.data.toList ++ List.replicate (grownCap w s.size 0 5 - s.size) (.int .u8 0) := by
      simp [Lib.bytesCells, Lib.byteCells]
    rw [e]
    have : s.data.toList.length = (Lib.byteCells s.data.toList).length := by rw [Lib.byteCells_length]
    rw [this]
    exact List.take_left
/-- '[]byte{}'. -/
theorem OwnY.bare (w : World) : OwnY (w.alloc (Obj.cells #[] 5)) w.heap.size (.slice (some ⟨w.heap.size, 0, none⟩) 0 0) [] :=
  ⟨w.heap.size, 0, #[], (0, 0), rfl, Nat.le_refl _, heap_alloc_new w _, .inl rfl, Nat.le_refl _, Nat.zero_le _, rfl, rfl⟩

end Go.Proofs.YtanebchmeaomgaaGreatDoor
namespace Go.Proofs.YtanebchmeaomgaaGreatDoor
open Go.RowKit
set_option linter.unusedVariables false

theorem run_append_from (w : World) (B : Nat) (v : Value) (l : List UInt8) (ty : TypeId) (h : OwnY w B v l) (g0 o0 : Nat) (m : List UInt8) (c : Nat) (hm : ∀ j (hj : j < m.length), w.cell? ⟨g0, o0 + j, none⟩ = some (.int .u8 m[j].toNat)) (hs : l.length + m.length ≤ 4398046511104) (hB : B ≤ w.heap.size) :
    ∃ v' w', (Builtin.append_ #[22, 22] ty #[v, .slice (some ⟨g0, o0, none⟩) m.length c]).run Tryz.prog w = .ok v' w' ∧ OwnY w' B v' (l ++ m) ∧ w.grownBy w' v.ownBlock ∧ (v'.ownBlock = v.ownBlock ∨ v'.ownBlock = some w.heap.size) := by
  obtain ⟨i0, hi, hz0, hz1, hz2⟩ := info_parts infoU8
  obtain ⟨g, cap, cur, fz, rfl, hBg, hg, hfz, hn, hcm, hcs, htake⟩ := h
  have hlen : (l ++ m).length = l.length + m.length := List.length_append
  have hgl : g < w.heap.size := (Array.getElem?_eq_some_iff.1 hg).1
  have hnews : ∀ j u, (Lib.byteCells m)[j]? = some u → w.cell? ((⟨g0, o0, none⟩ : Addr).add j) = some u := by
    intro j u hu
    have hj : j < m.length := by
      have := (List.getElem?_eq_some_iff.1 hu).1
      rwa [Lib.byteCells_length] at this
    have hadd : (⟨g0, o0, none⟩ : Addr).add j = ⟨g0, o0 + j, none⟩ := by unfold Addr.add; split <;> simp_all
    rw [hadd, hm j hj]
    simp [Lib.byteCells, List.getElem?_eq_getElem hj] at hu
    rw [← hu]
  have hone : ∀ u ∈ Lib.byteCells m, u.oneCell' = true := by
    intro u hu
    simp only [Lib.byteCells, List.mem_map] at hu
    obtain ⟨c, _, rfl⟩ := hu
    rfl
  by_cases hroom : l.length + m.length ≤ cap
  · have hf := run_firstCells_some (P := Tryz.prog) w 1 m.length ⟨g0, o0, none⟩ m.length c (Lib.byteCells m) (by rw [Lib.byteCells_length]; omega) hnews
    have hst := storeCells_behind Tryz.prog g l.length 5 fz (Lib.byteCells m) 0 cur w hg hfz (by rw [Lib.byteCells_length]; omega) hone
    simp only [Nat.add_zero, Lib.byteCells_length] at hst
    refine ⟨.slice (some ⟨g, 0, none⟩) (l.length + m.length) cap, w.setRow g (cur.toList.take l.length ++ Lib.byteCells m ++ cur.toList.drop (l.length + m.length)).toArray, ?_, ?_, ?_⟩
    · simp [Builtin.append_, run_underlying Tryz.underlying22, sizeOf, typeInfo, hi, hz1, Builtin.lenOf, hroom, hf, Addr.add_lit, hst]
    · refine ⟨g, cap, _, fz, by rw [hlen], hBg, setRow_heap w g cur _ 5 _ hg, ?_, by omega, hcm, ?_, ?_⟩
      · rcases hfz with hfz | hfz
        · exact .inl hfz
        · right
          simp only [List.size_toArray, List.length_append, List.length_take, List.length_drop, Array.length_toList, Lib.byteCells_length]
          omega
      · simp only [List.size_toArray, List.length_append, List.length_take, List.length_drop, Array.length_toList, Lib.byteCells_length]
        omega
      · rw [htake, Lib.byteCells_append]
        have : (l ++ m).length = (Lib.byteCells l ++ Lib.byteCells m).length := by rw [List.length_append, List.length_append, Lib.byteCells_length, Lib.byteCells_length]
        rw [this]
        exact List.take_left
    · exact ⟨⟨rfl, rfl, rfl, by simp, fun k _ hk => setRow_other w g k _ (fun e => hk (by simp [Value.ownBlock, e]))⟩, .inl rfl⟩
  · have holds : ∀ j u, (Lib.byteCells l)[j]? = some u → w.cell? ((⟨g, 0, none⟩ : Addr).add j) = some u := by
      intro j u hu
      have hadd : (⟨g, 0, none⟩ : Addr).add j = ⟨g, j, none⟩ := by unfold Addr.add; split <;> simp_all
      rw [hadd, ← htake] at *
      rw [List.getElem?_take] at hu
      split at hu
      · simp [World.cell?, hg]; simpa using hu
      · cases hu
    have hr := run_append_grow (P := Tryz.prog) w 22 ty 5 i0 (.int .u8 0) Tryz.underlying22 hi hz0 ⟨g, 0, none⟩ l.length cap (Lib.byteCells l) (by rw [hz1, Lib.byteCells_length, Nat.mul_one]) holds ⟨g0, o0, none⟩ m.length c (Lib.byteCells m) (by rw [hz1, Lib.byteCells_length, Nat.mul_one]) hnews (by omega) (by omega) (by rw [hz2]; exact growslice_fits (by omega) (by omega))
    have hge := grownCap_ge w (l.length + m.length) cap 5
    have hcm2 : grownCap w (l.length + m.length) cap 5 ≤ maxLen := grownCap_le_maxLen w (l.length + m.length) cap 5 (by unfold maxLen; omega)
    refine ⟨_, _, hr, ⟨w.heap.size, _, _, (0, 0), by rw [hlen], hB, heap_alloc_new w.drew _, .inl rfl, by omega, hcm2, ?_, ?_⟩, ⟨rfl, rfl, rfl, by simp, fun k hk _ => ((Below.refl w.drew.heap.size w.drew).alloc (Nat.le_refl _) _).block k (by show k < w.heap.size; omega)⟩, .inr rfl⟩
    · have hz1' : (Value.int IntKind.u8 0).cells.size = 1 := rfl
      simp only [Array.size_append, List.size_toArray, size_zeroCells, hz1', Lib.byteCells_length]
      omega
    · simp only [Array.toList_append, List.append_assoc]
      rw [← List.append_assoc, ← Lib.byteCells_append]
      have : (l ++ m).length = (Lib.byteCells (l ++ m)).length := by rw [Lib.byteCells_length]
      rw [this]
      exact List.take_left

theorem run_append_byts (w : World) (B : Nat) (v : Value) (l : List UInt8) (ty : TypeId) (h : OwnY w B v l) (g0 : Nat) (m : List UInt8) (c : Nat) (hm : ∀ j (hj : j < m.length), w.cell? ⟨g0, j, none⟩ = some (.int .u8 m[j].toNat)) (hs : l.length + m.length ≤ 4398046511104) (hB : B ≤ w.heap.size) :
    ∃ v' w', (Builtin.append_ #[22, 22] ty #[v, .slice (some ⟨g0, 0, none⟩) m.length c]).run Tryz.prog w = .ok v' w' ∧ OwnY w' B v' (l ++ m) ∧ w.grownBy w' v.ownBlock ∧ (v'.ownBlock = v.ownBlock ∨ v'.ownBlock = some w.heap.size) :=
  run_append_from w B v l ty h g0 0 m c (fun j hj => by rw [Nat.zero_add]; exact hm j hj) hs hB

theorem wp_append_byts {w : World} {ops : Array Oper} {rest : List Oper} {o : Oper} {a : Act} {Q : Exit → Act → World → Prop} (hgd : o.guard = none) (sl x : Operand)
    (ho : o.op = .call { callee := .builtin .append, args := #[sl, x], argTypes := #[22, 22] })
    (B : Nat) (v : Value) (l : List UInt8) (hs : a.eval sl = v) (hown : OwnY w B v l) (g0 : Nat) (m : List UInt8) (c : Nat) (hx : a.eval x = .slice (some ⟨g0, 0, none⟩) m.length c) (hm : ∀ j (hj : j < m.length), w.cell? ⟨g0, j, none⟩ = some (.int .u8 m[j].toNat)) (hlen : l.length + m.length ≤ 4398046511104) (hB : B ≤ w.heap.size)
    (h : ∀ v' w', OwnY w' B v' (l ++ m) → w.grownBy w' v.ownBlock → (v'.ownBlock = v.ownBlock ∨ v'.ownBlock = some w.heap.size) → wpList Tryz.prog ops Q rest (a.put o.dst v') w') : wpList Tryz.prog ops Q (o :: rest) a w := by
  refine wpList_plain hgd fun K hK => ?_
  obtain ⟨v', w', hr, h2, h3, h4⟩ := run_append_byts w B v l o.type hown g0 m c hm hlen hB
  unfold Oper.wp execOp
  simp only [ho, resolve, invoke, builtin, Sem.run_bind, Sem.run_pure, Result.andThen_ok, List.map_toArray, List.map_cons, List.map_nil, hs, hx, hr]
  exact hK _ _ (h v' w' h2 h3 h4)
end Go.Proofs.YtanebchmeaomgaaGreatDoor
namespace Go.Proofs.YtanebchmeaomgaaGreatDoor
open Go.RowKit M
set_option linter.unusedVariables false

theorem OwnY.slice {w : World} {B : Nat} {v : Value} {l : List UInt8} (h : OwnY w B v l) : ∃ g c, v = .slice (some ⟨g, 0, none⟩) l.length c ∧ OwnY w B (.slice (some ⟨g, 0, none⟩) l.length c) l := by
  have h2 := h
  obtain ⟨g, cap, cur, fz, rfl, hr⟩ := h
  exact ⟨g, cap, rfl, h2⟩
theorem OwnY.bd {w : World} {B g n c : Nat} {l : List UInt8} (h : OwnY w B (.slice (some ⟨g, 0, none⟩) n c) l) : l.length = n ∧ n ≤ c ∧ c ≤ maxLen ∧ B ≤ g ∧ g < w.heap.size := by
  obtain ⟨g', cap, cur, fz, hv, hB, hg, _, h1, h2, _⟩ := h
  cases hv
  exact ⟨rfl, h1, h2, hB, (Array.getElem?_eq_some_iff.1 hg).1⟩
theorem OwnY.bytAt {w : World} {B g n c C : Nat} {l : List UInt8} (h : OwnY w B (.slice (some ⟨g, 0, none⟩) n c) l) (hC : g < C) : Byt w C (some ⟨g, 0, none⟩) l := by
  obtain ⟨g', c', hv, _, _, _, _, hb⟩ := h.byt
  cases hv
  intro h0
  obtain ⟨b, o, e, _, hc⟩ := hb h0
  cases e
  exact ⟨_, _, rfl, hC, hc⟩
/-- What the slice's first bytes are. -/
theorem OwnY.take {w : World} {B g n c : Nat} {l : List UInt8} (h : OwnY w B (.slice (some ⟨g, 0, none⟩) n c) l) (k : Nat) (hk : k ≤ l.length) : OwnY w B (.slice (some ⟨g, 0, none⟩) k c) (l.take k) := by
  obtain ⟨g', cap, cur, fz, hv, hB, hg, hf, h1, h2, h3, h4⟩ := h
  cases hv
  have hl : (l.take k).length = k := by rw [List.length_take]; omega
  refine ⟨g, c, cur, fz, by rw [hl], hB, hg, hf, by omega, h2, h3, ?_⟩
  rw [hl]
  have e : cur.toList.take k = (cur.toList.take l.length).take k := by rw [List.take_take]; congr 1; omega
  rw [e, h4]
  simp [Lib.byteCells, List.map_take]
theorem OwnY.same {w w' : World} {B g n c : Nat} {l : List UInt8} (h : OwnY w B (.slice (some ⟨g, 0, none⟩) n c) l) (hb : w'.heap[g]? = w.heap[g]?) : OwnY w' B (.slice (some ⟨g, 0, none⟩) n c) l := by
  obtain ⟨g', cap, cur, fz, hv, hB, hg, hr⟩ := h
  cases hv
  exact ⟨g, c, cur, fz, rfl, hB, hb.trans hg, hr⟩
theorem OwnY.bareAt {w : World} {B g : Nat} (hg : w.heap[g]? = some (.cells #[] 5)) (hB : B ≤ g) : OwnY w B (.slice (some ⟨g, 0, none⟩) 0 0) [] :=
  ⟨g, 0, #[], (0, 0), rfl, hB, hg, .inl rfl, Nat.le_refl _, Nat.zero_le _, rfl, rfl⟩
theorem OwnY.zeros (w : World) (n : Nat) (hn : n ≤ 1048576) : OwnY (w.alloc (.cells (madeCells #[.int .u8 0] n) 5)) w.heap.size (.slice (some ⟨w.heap.size, 0, none⟩) n n) (List.replicate n 0) := by
  have hm : (madeCells #[Value.int .u8 0] n).toList = List.replicate n (.int .u8 0) := by
    apply List.ext_getElem
    · simp [madeCells]
    · intro i h1 h2
      simp [madeCells, Nat.mod_one]
  have hs : (madeCells #[Value.int .u8 0] n).size = n := by rw [← Array.length_toList, hm, List.length_replicate]
  refine ⟨w.heap.size, n, _, (0, 0), by rw [List.length_replicate], Nat.le_refl _, heap_alloc_new w _, .inl rfl, by rw [List.length_replicate]; exact Nat.le_refl _, by unfold maxLen; omega, hs, ?_⟩
  rw [List.length_replicate, hm, List.take_of_length_le (by rw [List.length_replicate]; exact Nat.le_refl _)]
  simp [Lib.byteCells]

/-- 'append' of bytes, as one step of a region that draws. -/
theorem step_append_byts {ops : Array Oper} {o : Oper} {a : Act} {W : World} {K : Act → World → Prop} {Q : Exit → Act → World → Prop} {E : Prop} (hg : o.guard = none) (s x : Operand)
    (ho : o.op = .call { callee := .builtin .append, args := #[s, x], argTypes := #[22, 22] })
    (B g n c : Nat) (l : List UInt8) (hs : a.eval s = .slice (some ⟨g, 0, none⟩) n c) (hown : OwnY W B (.slice (some ⟨g, 0, none⟩) n c) l)
    (A : Option Addr) (k k' c0 : Nat) (m : List UInt8) (hx : a.eval x = .slice A k c0) (hA : ∃ g0 o0, A = some ⟨g0, o0, none⟩) (hk : m.length = k) (hm : Byt W W.heap.size A m) (hlen : n + k = k') (hlen2 : k' ≤ 4398046511104) (hB : B ≤ W.heap.size)
    (hK : ∀ g' c' w', OwnY w' B (.slice (some ⟨g', 0, none⟩) k' c') (l ++ m) → W.grownBy w' (some g) → K (a.put o.dst (.slice (some ⟨g', 0, none⟩) k' c')) w') :
    if Region.wanted o (yielded ops a.tmps) = true then Oper.wp Tryz.prog o a W K Q else E := by
  have hw : Region.wanted o (yielded ops a.tmps) = true := by simp [Region.wanted, hg]
  rw [if_pos hw]
  have hbd := hown.bd
  subst hk
  obtain ⟨g0, o0, rfl⟩ := hA
  have hcell : ∀ j (hj : j < m.length), W.cell? ⟨g0, o0 + j, none⟩ = some (.int .u8 m[j].toNat) := by
    intro j hj
    obtain ⟨b, o', e, _, hc⟩ := hm (by omega)
    cases e
    exact hc j hj
  obtain ⟨v', w', hr, h2, h3, h4⟩ := run_append_from W B _ l o.type hown g0 o0 m c0 hcell (by omega) hB
  obtain ⟨g', c', rfl, h5⟩ := h2.slice
  have hl : (l ++ m).length = k' := by rw [List.length_append]; omega
  rw [hl] at h5 hr
  unfold Oper.wp execOp
  simp only [ho, resolve, invoke, builtin, Sem.run_bind, Sem.run_pure, Result.andThen_ok, List.map_toArray, List.map_cons, List.map_nil, hs, hx, hr]
  exact hK g' c' w' h5 h3

/-- What stands in the course of a step that puts bytes together behind the world w0: the cursor, the bytes that are read of. -/
structure Ins (w0 W : World) (N : Nat) (a : Option Addr) (len cap : Nat) (zs : List Int) (gb : Nat) (lb : List UInt8) : Prop where
  dx : DX W N a len cap zs
  byt : Byt W w0.heap.size (some ⟨gb, 0, none⟩) lb
  gr : w0.grownBy W (some N)
  hN : N < w0.heap.size
  hb : gb < w0.heap.size
  hne : gb ≠ N
section
variable {w0 W : World} {N : Nat} {a : Option Addr} {len cap : Nat} {zs : List Int} {gb : Nat} {lb : List UInt8}
theorem Ins.start {B n c : Nat} (hd : DX w0 N a len cap zs) (ho : OwnY w0 B (.slice (some ⟨gb, 0, none⟩) n c) lb) (hB : N < B) : Ins w0 w0 N a len cap zs gb lb :=
  ⟨hd, ho.bytAt ho.bd.2.2.2.2, grown_refl _ _, hd.lt, ho.bd.2.2.2.2, by have := ho.bd.2.2.2.1; omega⟩
theorem Ins.drew (h : Ins w0 W N a len cap zs gb lb) : Ins w0 W.drew N a len cap zs gb lb :=
  ⟨h.dx.other (Nat.le_refl _) (fun _ _ => rfl), h.byt, ⟨h.gr.os, h.gr.tape, h.gr.output, h.gr.size, h.gr.block⟩, h.hN, h.hb, h.hne⟩
theorem Ins.alloc (h : Ins w0 W N a len cap zs gb lb) (o : Obj) : Ins w0 (W.alloc o) N a len cap zs gb lb :=
  ⟨h.dx.alloc o, h.byt.below ((Below.refl w0.heap.size W).alloc h.gr.size o) (Nat.le_refl _), grown_alloc h.gr o, h.hN, h.hb, h.hne⟩
theorem Ins.app {W' : World} {B g n c : Nat} {l : List UInt8} (h : Ins w0 W N a len cap zs gb lb) (ho : OwnY W w0.heap.size (.slice (some ⟨g, 0, none⟩) n c) l) (hg : W.grownBy W' (some g)) : Ins w0 W' N a len cap zs gb lb := by
  have hgl := ho.bd.2.2.2.1
  have hb : Below w0.heap.size W W' := ⟨hg.os, hg.tape, hg.output, hg.size, fun k hk => hg.block k (Nat.lt_of_lt_of_le hk h.gr.size) (by simp; omega)⟩
  exact ⟨h.dx.other hg.size (fun k hk => hb.block k (by have := h.hN; omega)), h.byt.below hb (Nat.le_refl _), grown_past h.gr hb, h.hN, h.hb, h.hne⟩
theorem Ins.front (h : Ins w0 W N a len cap zs gb lb) (m : Nat) : Byt W W.heap.size (some ⟨gb, 0, none⟩) (lb.take m) := (h.byt.take m).mono h.gr.size
theorem Ins.back (h : Ins w0 W N a len cap zs gb lb) (m cb : Nat) (hc : lb.length ≤ cb) : Byt W W.heap.size (if cb = m then some ⟨gb, 0, none⟩ else some ⟨gb, m, none⟩) (lb.drop m) := by
  split
  · have e : lb.drop m = [] := List.drop_of_length_le (by omega)
    rw [e]
    exact Byt.nil _ _ _
  · have := (h.byt.drop m).mono h.gr.size
    rw [Nat.zero_add] at this
    exact this
theorem Ins.append {ops : Array Oper} {o : Oper} {b : Act} {K : Act → World → Prop} {Q : Exit → Act → World → Prop} {E : Prop} (hI : Ins w0 W N a len cap zs gb lb) (hg : o.guard = none) (s x : Operand)
    (ho : o.op = .call { callee := .builtin .append, args := #[s, x], argTypes := #[22, 22] })
    (g n c : Nat) (l : List UInt8) (hs : b.eval s = .slice (some ⟨g, 0, none⟩) n c) (hown : OwnY W w0.heap.size (.slice (some ⟨g, 0, none⟩) n c) l)
    (A : Option Addr) (k k' c0 : Nat) (m : List UInt8) (hx : b.eval x = .slice A k c0) (hA : ∃ g0 o0, A = some ⟨g0, o0, none⟩) (hk : m.length = k) (hm : Ins w0 W N a len cap zs gb lb → Byt W W.heap.size A m) (hlen : n + k = k') (hlen2 : k' ≤ 4398046511104)
    (hK : ∀ g' c' w', OwnY w' w0.heap.size (.slice (some ⟨g', 0, none⟩) k' c') (l ++ m) → Ins w0 w' N a len cap zs gb lb → W.grownBy w' (some g) → K (b.put o.dst (.slice (some ⟨g', 0, none⟩) k' c')) w') :
    if Region.wanted o (yielded ops b.tmps) = true then Oper.wp Tryz.prog o b W K Q else E :=
  step_append_byts hg s x ho w0.heap.size g n c l hs hown A k k' c0 m hx hA hk (hm hI) hlen hlen2 hI.gr.size (fun g' c' w' h1 h2 => hK g' c' w' h1 (hI.app (B := 0) hown h2) h2)
theorem Ins.int (h : Ins w0 W N a len cap zs gb lb) (ss : List Int) (C : Array Value) (T : TypeId) (n b : Nat) (hb : w0.heap.size ≤ b) (hC : C = (ss.map (Value.int .i64)).toArray) (hn : ss.length = n) (h0 : 0 < n) (h1 : n ≤ 256) (hz : ∀ s ∈ ss, 0 ≤ s ∧ s ≤ 255)
    (hls : W.heap[b]? = some (.cells C T)) :
    Calls Tryz.prog 48 #[.pointer (some ⟨N, 0, none⟩), .slice (some ⟨b, 0, none⟩) n n] W fun e w' => (∃ s : UInt8, e = .returned (.int .i64 s.toNat)) ∧ Ins w0 w' N a len cap zs gb lb ∧ W.grownBy w' (some N) := by
  obtain ⟨cu, hd⟩ := h.dx
  have hN := h.hN
  refine (l1Int_any N b a len cap n zs ss cu W hd.cur hd.code hd.bN hd.hlen h0 h1 (by omega) ?_).mono ?_
  · subst hC hn
    intro j hj
    simp [World.cell?, hls, List.getD_eq_getElem?_getD, List.getElem?_eq_getElem hj]
  · rintro e w1 ⟨rfl, hc1, hg1⟩
    refine ⟨?_, ⟨⟨_, hd.grown hg1 hc1⟩, ?_, grown_trans h.gr hg1, hN, h.hb, h.hne⟩, hg1⟩
    · have hx := getD_mem ss (pick zs len cu n) 0 (fun s => 0 ≤ s ∧ s ≤ 255) hz (by decide)
      refine ⟨UInt8.ofNat (ss.getD (pick zs len cu n) 0).toNat, ?_⟩
      rw [UInt8.toNat_ofNat_of_lt' (by show _ < 256; omega), Int.toNat_of_nonneg hx.1]
    · intro h0
      obtain ⟨b', o, e, hbB, hc⟩ := h.byt h0
      cases e
      exact ⟨_, _, rfl, hbB, fun j hj => (World.cell?_of_block (a := ⟨gb, 0 + j, none⟩) (hg1.block gb (Nat.lt_of_lt_of_le h.hb h.gr.size) (by simp; exact h.hne))).trans (hc j hj)⟩
end
theorem tail_some (gb m cb : Nat) : ∃ g0 o0, (if cb = m then some (⟨gb, 0, none⟩ : Addr) else some ⟨gb, m, none⟩) = some ⟨g0, o0, none⟩ := by
  split
  · exact ⟨_, _, rfl⟩
  · exact ⟨_, _, rfl⟩
theorem heap_first (w : World) (o p : Obj) : ((w.alloc o).alloc p).heap[w.heap.size]? = some o :=
  (((Below.refl (w.alloc o).heap.size (w.alloc o)).alloc (Nat.le_refl _) p).block w.heap.size (by simp)).trans (heap_alloc_new w o)
theorem heap_second (w : World) (o p : Obj) : ((w.alloc o).alloc p).heap[w.heap.size + 1]? = some p := by
  have h := heap_alloc_new (w.alloc o) p
  have e : (w.alloc o).heap.size = w.heap.size + 1 := by simp
  rw [e] at h
  exact h
theorem byt_one (W : World) (x : UInt8) : Byt (W.alloc (Obj.cells #[.int .u8 x.toNat] 5)) (W.alloc (Obj.cells #[.int .u8 x.toNat] 5)).heap.size (some ⟨W.heap.size, 0, none⟩) [x] := fun _ =>
  ⟨_, _, rfl, by simp, fun j hj => by
    have : j = 0 := by simp at hj; omega
    subst this
    simp⟩
theorem wrap_u8 (x : UInt8) : IntKind.u8.wrap (x.toNat : Int) = x.toNat := by
  have := x.toNat_lt
  rw [IntKind.wrap_u8]; omega
theorem OwnY.drew {w : World} {B : Nat} {v : Value} {l : List UInt8} (h : OwnY w B v l) : OwnY w.drew B v l := h
theorem OwnY.alloc {w : World} {B : Nat} {v : Value} {l : List UInt8} (h : OwnY w B v l) (o : Obj) : OwnY (w.alloc o) B v l := h.next ((Below.refl _ _).alloc (Nat.le_refl _) o)
end Go.Proofs.YtanebchmeaomgaaGreatDoor
