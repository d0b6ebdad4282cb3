/-
  The draws of requests, bent or not.
  Bytes of whatever slice behind a row of bytes that the call made, behind a part of one, and behind none.
  Numbers out of a list that are drawn.
  The draws of bytes of some requests.
  A byte of a code.
  What a [][]byte holds.
  Bytes cut into parts, as the laws cut them: parts of one row, one behind the other, whatever the code.
-/
import Derived.Test.YtanebchmeaomgaaGreatDoorStepByts
import Derived.Test.YtanebchmeaomgaaGreatDoorDrawBytes
import Derived.Test.YtanebchmeaomgaaGreatDoorHeads
namespace Go.Proofs.YtanebchmeaomgaaGreatDoor
open Go.RowKit M
set_option linter.unusedVariables false

/-- What a draw of a request returns. -/
def RetQ (w' : World) (v : Value) : Prop := ∃ (r : Rq) (g c : Nat), SmallR r ∧ v = .agg #[.string r.m, .string r.p, .slice (some ⟨g, 0, none⟩) r.hs.length c, .string r.b] ∧ Hds w' w'.heap.size (some ⟨g, 0, none⟩) r.hs
set_option maxRecDepth 100000 in
set_option maxHeartbeats 1000000 in
theorem drawPutReq_any {w : World} {B : Nat} {a : Option Addr} {len : Nat} {zs : List Int} (h : CodeIn w B a len zs) (hB : B ≤ w.heap.size) (cap : Nat) :
    Calls Tryz.prog 16 #[.slice a len cap] w fun e w' => (∃ v, e = .returned v ∧ RetQ w' v) ∧ Below w.heap.size w w' := by
  have H := hide h
  clear h
  go_enter Tryz.func16, Tryz.ntmps16
  have hb0 : Below w.heap.size w (w.alloc (Obj.cells #[Value.string { data := #[] }, Value.string { data := #[] }, Value.slice none 0 0, Value.string { data := #[] }] 39)) := (Below.refl _ _).alloc (Nat.le_refl _) _
  have hz0 : (w.alloc (Obj.cells #[Value.string { data := #[] }, Value.string { data := #[] }, Value.slice none 0 0, Value.string { data := #[] }] 39)).heap.size = w.heap.size + 1 := by simp
  have HN := hide (newDX (H.out.below (hb0.mono hB)) cap)
  have HR0 := hide (Ret4.made w 39)
  have HB0 := hide hb0
  have HZ0 := hide hz0
  clear hb0 hz0
  go_wp2_with fail
  refine HN.out.mono ?_
  rintro e w1 ⟨rfl, hd1, b1⟩
  have z1 := b1.size
  rw [HZ0.out] at hd1 b1 z1
  have r1 := HR0.out.of b1.size (b1.block w.heap.size (by omega))
  have c1 := HB0.out.trans (b1.mono (by omega))
  have D1 := hide hd1
  have R1 := hide r1
  clear hd1 b1 r1 HN
  go_wp2_with fail
  refine (l3Any_any D1.out).mono ?_
  rintro e w2 ⟨⟨r, g, c, hs, rfl, ho⟩, hd2, hg2⟩
  have r2 := R1.out.of hg2.size (hg2.block w.heap.size R1.out.1 (by simp))
  have hgl := ho.lt g rfl
  have hgw : g ≠ w.heap.size := by omega
  have c2 : Below w.heap.size w w2 := c1.trans ⟨hg2.os, hg2.tape, hg2.output, hg2.size, fun k hk => hg2.block k (by omega) (by simp; omega)⟩
  have O2 := hide ho
  have HS := hide hs
  clear ho hd2 hg2 hs
  obtain ⟨_, ⟨t0, z0⟩, ⟨t1, z1⟩, ⟨t2, z2⟩, ⟨t3, z3⟩, e0, e1, e2, e3⟩ := r2
  go_wp2
  refine bodyPost_ret (v := .agg #[.string r.m, .string r.p, .slice (some ⟨g, 0, none⟩) r.hs.length c, .string r.b]) (by simp [results, Tryz.results16, go_sem, z0, z1, z2, z3]) rfl ⟨⟨_, rfl, r, g, c, HS.out, rfl, ?_⟩, c2.trans (below_sets (Nat.le_refl _) _ _ _ _)⟩
  exact ownsH_hds (ownsH_set (ownsH_set (ownsH_set (ownsH_set O2.out (fun e => hgw e.symm)) (fun e => hgw e.symm)) (fun e => hgw e.symm)) (fun e => hgw e.symm)) rfl

end Go.Proofs.YtanebchmeaomgaaGreatDoor
namespace Go.Proofs.YtanebchmeaomgaaGreatDoor
open Go.RowKit
set_option linter.unusedVariables false

theorem add_plainA (b o i : Nat) : (⟨b, o, none⟩ : Addr).add i = ⟨b, o + i, none⟩ := by unfold Addr.add; split <;> simp_all

theorem run_append_any (w : World) (B : Nat) (v : Value) (l : List UInt8) (ty : TypeId) (h : OwnY w B v l) (a : Option Addr) (m : List UInt8) (c C : Nat) (hy : Byt w C a m) (hs : l.length + m.length ≤ 4398046511104) (hB : B ≤ w.heap.size) :
    ∃ v' w', (Builtin.append_ #[22, 22] ty #[v, .slice a m.length c]).run Tryz.prog w = .ok v' w' ∧ OwnY w' B v' (l ++ m) ∧ w.grownBy w' v.ownBlock ∧ (v'.ownBlock = v.ownBlock ∨ v'.ownBlock = some w.heap.size) := by
  by_cases h0 : 0 < m.length
  · obtain ⟨b, o, rfl, _, hc⟩ := hy h0
    exact run_append_from w B v l ty h b o m c hc hs hB
  · have : m = [] := List.length_eq_zero_iff.1 (by omega)
    subst this
    refine ⟨v, w, ?_, by rw [List.append_nil]; exact h, ⟨rfl, rfl, rfl, Nat.le_refl _, fun _ _ _ => rfl⟩, .inl rfl⟩
    obtain ⟨g, cap, cur, fz, rfl, hBg, hg, hfz, hn, hcm, hcs, htake⟩ := h
    obtain ⟨i0, hi, hz0, hz1, hz2⟩ := info_parts infoU8
    cases a <;> simp [Builtin.append_, run_underlying Tryz.underlying22, sizeOf, typeInfo, hi, Builtin.lenOf, Builtin.firstCells, loadCells, loadCellsFrom, storeCells, hn]

theorem wp_append_any {w : World} {ops : Array Oper} {rest : List Oper} {o : Oper} {a : Act} {Q : Exit → Act → World → Prop} (hgd : o.guard = none) (sl x : Operand)
    (ho : o.op = .call { callee := .builtin .append, args := #[sl, x], argTypes := #[22, 22] })
    (B : Nat) (v : Value) (l : List UInt8) (hs : a.eval sl = v) (hown : OwnY w B v l) (am : Option Addr) (m : List UInt8) (c C : Nat) (hx : a.eval x = .slice am m.length c) (hy : Byt w C am m) (hlen : l.length + m.length ≤ 4398046511104) (hB : B ≤ w.heap.size)
    (h : ∀ v' w', OwnY w' B v' (l ++ m) → w.grownBy w' v.ownBlock → (v'.ownBlock = v.ownBlock ∨ v'.ownBlock = some w.heap.size) → wpList Tryz.prog ops Q rest (a.put o.dst v') w') : wpList Tryz.prog ops Q (o :: rest) a w := by
  refine wpList_plain hgd fun K hK => ?_
  obtain ⟨v', w', hr, h2, h3, h4⟩ := run_append_any w B v l o.type hown am m c C hy hlen hB
  unfold Oper.wp execOp
  simp only [ho, resolve, invoke, builtin, Sem.run_bind, Sem.run_pure, Result.andThen_ok, List.map_toArray, List.map_cons, List.map_nil, hs, hx, hr]
  exact hK _ _ (h v' w' h2 h3 h4)

/-- The slice v holds the bytes l: none at all, or a part of a row of the call's own, from B on, up to the row's end. -/
def OwnO (w : World) (B : Nat) (v : Value) (l : List UInt8) : Prop :=
  (v = .slice none 0 0 ∧ l = []) ∨ ∃ g o cap cur, v = .slice (some ⟨g, o, none⟩) l.length cap ∧ B ≤ g ∧ w.heap[g]? = some (.cells cur 5) ∧ l.length ≤ cap ∧ cap ≤ maxLen ∧ o + cap ≤ cur.size ∧ (cur.toList.drop o).take l.length = Lib.byteCells l
theorem OwnO.nil (w : World) (B : Nat) : OwnO w B (.slice none 0 0) [] := .inl ⟨rfl, rfl⟩
theorem OwnO.of {w w' : World} {B : Nat} {v : Value} {l : List UInt8} (h : OwnO w B v l) (hb : ∀ g, v.ownBlock = some g → w'.heap[g]? = w.heap[g]?) : OwnO w' B v l := by
  rcases h with h | ⟨g, o, cap, cur, rfl, hB, hg, hr⟩
  · exact .inl h
  · exact .inr ⟨g, o, cap, cur, rfl, hB, (hb g rfl).trans hg, hr⟩
theorem OwnO.lt {w : World} {B : Nat} {v : Value} {l : List UInt8} (h : OwnO w B v l) : ∀ g, v.ownBlock = some g → B ≤ g ∧ g < w.heap.size := by
  rcases h with ⟨rfl, _⟩ | ⟨g, o, cap, cur, rfl, hB, hg, hr⟩
  · intro g hg; cases hg
  · intro k hk
    have : g = k := Option.some.inj hk
    subst this
    exact ⟨hB, (Array.getElem?_eq_some_iff.1 hg).1⟩
theorem OwnO.next {w w' : World} {B : Nat} {v : Value} {l : List UInt8} (h : OwnO w B v l) (hb : Below w.heap.size w w') : OwnO w' B v l := h.of (fun g hg => hb.block g (h.lt g hg).2)
theorem OwnO.slice {w : World} {B : Nat} {v : Value} {l : List UInt8} (h : OwnO w B v l) : ∃ a c, v = .slice a l.length c ∧ l.length ≤ c ∧ c ≤ maxLen ∧ (a = none → l = [] ∧ c = 0) ∧ (∀ x, a = some x → x.spot = none) ∧ Byt w w.heap.size a l := by
  rcases h with ⟨rfl, rfl⟩ | ⟨g, o, cap, cur, rfl, hB, hg, h1, h2, h3, h4⟩
  · exact ⟨none, 0, rfl, Nat.le_refl _, Nat.zero_le _, fun _ => ⟨rfl, rfl⟩, (fun x e => by cases e), Byt.nil _ _ _⟩
  · refine ⟨some ⟨g, o, none⟩, cap, rfl, h1, h2, (fun e => by cases e), (fun x e => by have := Option.some.inj e; rw [← this]), fun _ => ⟨g, o, rfl, (Array.getElem?_eq_some_iff.1 hg).1, fun j hj => ?_⟩⟩
    have hx : cur.toList[o + j]? = some (.int .u8 l[j].toNat) := by
      have e : ((cur.toList.drop o).take l.length)[j]? = cur.toList[o + j]? := by rw [List.getElem?_take, if_pos hj, List.getElem?_drop]
      rw [← e, h4]
      simp [Lib.byteCells, List.getElem?_eq_getElem hj]
    simp [World.cell?, hg]
    simpa using hx
/-- What is left behind the first n bytes. -/
theorem OwnO.drop {w : World} {B g o c : Nat} {l : List UInt8} {n : Nat} (h : OwnO w B (.slice (some ⟨g, o, none⟩) l.length c) l) (hn : n ≤ l.length) : OwnO w B (.slice (if c = n then some ⟨g, o, none⟩ else some ⟨g, o + n, none⟩) (l.drop n).length (c - n)) (l.drop n) := by
  rcases h with ⟨h, _⟩ | ⟨g', o', cap, cur, e, hB, hg, h1, h2, h3, h4⟩
  · cases h
  · cases e
    by_cases hc : c = n
    · rw [if_pos hc]
      have e0 : l.drop n = [] := List.drop_eq_nil_of_le (by omega)
      rw [e0]
      exact .inr ⟨g, o, c - n, cur, rfl, hB, hg, Nat.zero_le _, by omega, by omega, rfl⟩
    · rw [if_neg hc]
      refine .inr ⟨g, o + n, c - n, cur, rfl, hB, hg, by rw [List.length_drop]; omega, by omega, by omega, ?_⟩
      rw [List.length_drop, ← List.drop_drop]
      have := congrArg (List.drop n) h4
      rw [List.drop_take] at this
      rw [this]
      simp [Lib.byteCells, List.map_drop]

theorem run_append_O (w : World) (B : Nat) (v : Value) (l : List UInt8) (ty : TypeId) (h : OwnO w B v l) (a : Option Addr) (m : List UInt8) (c C : Nat) (hy : Byt w C a m) (hs : l.length + m.length ≤ 1099511627776) (hB : B ≤ w.heap.size) :
    ∃ v' w', (Builtin.append_ #[22, 22] ty #[v, .slice a m.length c]).run Tryz.prog w = .ok v' w' ∧ OwnO w' B v' (l ++ m) ∧ w.grownBy w' v.ownBlock ∧ (v'.ownBlock = v.ownBlock ∨ v'.ownBlock = some w.heap.size) := by
  obtain ⟨i0, hi, hz0, hz1, hz2⟩ := info_parts infoU8
  by_cases h0 : 0 < m.length
  · obtain ⟨g0, o0, rfl, _, hm⟩ := hy h0
    have hlen : (l ++ m).length = l.length + m.length := List.length_append
    have hnews : ∀ j u, (Lib.byteCells m)[j]? = some u → w.cell? ((⟨g0, o0, none⟩ : Addr).add j) = some u := by
      intro j u hu
      have hj : j < m.length := by
        have := (List.getElem?_eq_some_iff.1 hu).1
        rwa [Lib.byteCells_length] at this
      rw [add_plainA, hm j hj]
      simp [Lib.byteCells, List.getElem?_eq_getElem hj] at hu
      rw [← hu]
    have hone : ∀ u ∈ Lib.byteCells m, u.oneCell' = true := by
      intro u hu
      simp only [Lib.byteCells, List.mem_map] at hu
      obtain ⟨c, _, rfl⟩ := hu
      rfl
    rcases h with ⟨rfl, rfl⟩ | ⟨g, o, cap, cur, rfl, hBg, hg, hn, hcm, hcs, htake⟩
    · have hr := run_append_nil (P := Tryz.prog) w 22 ty 5 i0 (.int .u8 0) Tryz.underlying22 hi hz0 ⟨g0, o0, none⟩ m.length c (Lib.byteCells m) (by rw [hz1, Lib.byteCells_length, Nat.mul_one]) hnews h0 (by simp at hs; omega) (by rw [hz2]; simp at hs; omega)
      have hge := grownCap_ge w m.length 0 5
      have hcm2 : grownCap w m.length 0 5 ≤ maxLen := grownCap_le_maxLen w m.length 0 5 (by unfold maxLen; simp at hs; omega)
      refine ⟨_, _, hr, .inr ⟨w.heap.size, 0, _, _, by rw [List.nil_append], hB, heap_alloc_new w.drew _, by rw [List.nil_append]; exact hge, hcm2, ?_, ?_⟩, ⟨rfl, rfl, rfl, by simp, fun k hk _ => ((Below.refl w.drew.heap.size w.drew).alloc (Nat.le_refl _) _).block k (by show k < w.heap.size; omega)⟩, .inr rfl⟩
      · have hz1' : (Value.int IntKind.u8 0).cells.size = 1 := rfl
        simp only [Array.size_append, List.size_toArray, size_zeroCells, hz1', Lib.byteCells_length]
        omega
      · simp only [Array.toList_append, List.drop_zero, List.nil_append]
        have : m.length = (Lib.byteCells m).length := by rw [Lib.byteCells_length]
        rw [this]
        exact List.take_left
    · have hgl : g < w.heap.size := (Array.getElem?_eq_some_iff.1 hg).1
      by_cases hroom : l.length + m.length ≤ cap
      · have hf := run_firstCells_some (P := Tryz.prog) w 1 m.length ⟨g0, o0, none⟩ m.length c (Lib.byteCells m) (by rw [Lib.byteCells_length]; omega) hnews
        have hst := storeCells_behind Tryz.prog g (o + l.length) 5 (0, 0) (Lib.byteCells m) 0 cur w hg (.inl rfl) (by rw [Lib.byteCells_length]; omega) hone
        simp only [Nat.add_zero, Lib.byteCells_length] at hst
        refine ⟨.slice (some ⟨g, o, none⟩) (l.length + m.length) cap, w.setRow g (cur.toList.take (o + l.length) ++ Lib.byteCells m ++ cur.toList.drop (o + l.length + m.length)).toArray, ?_, ?_, ?_⟩
        · simp [Builtin.append_, run_underlying Tryz.underlying22, sizeOf, typeInfo, hi, hz1, Builtin.lenOf, hroom, hf, add_plainA, hst]
        · refine .inr ⟨g, o, cap, _, by rw [hlen], hBg, setRow_heap w g cur _ 5 _ hg, by omega, hcm, ?_, ?_⟩
          · simp only [List.size_toArray, List.length_append, List.length_take, List.length_drop, Array.length_toList, Lib.byteCells_length]
            omega
          · have e1 : cur.toList.take (o + l.length) = cur.toList.take o ++ Lib.byteCells l := by rw [List.take_add, htake]
            have e2 : (cur.toList.take o).length = o := by rw [List.length_take, Array.length_toList]; omega
            rw [e1, List.append_assoc, List.append_assoc, List.drop_left' e2, ← List.append_assoc, ← Lib.byteCells_append]
            have : (l ++ m).length = (Lib.byteCells (l ++ m)).length := by rw [Lib.byteCells_length]
            rw [this]
            exact List.take_left
        · exact ⟨⟨rfl, rfl, rfl, by simp, fun k _ hk => setRow_other w g k _ (fun e => hk (by simp [Value.ownBlock, e]))⟩, .inl rfl⟩
      · have holds : ∀ j u, (Lib.byteCells l)[j]? = some u → w.cell? ((⟨g, o, none⟩ : Addr).add j) = some u := by
          intro j u hu
          rw [add_plainA, ← htake] at *
          rw [List.getElem?_take] at hu
          split at hu
          · rw [List.getElem?_drop] at hu
            simp [World.cell?, hg]; simpa using hu
          · cases hu
        have hr := run_append_grow (P := Tryz.prog) w 22 ty 5 i0 (.int .u8 0) Tryz.underlying22 hi hz0 ⟨g, o, none⟩ l.length cap (Lib.byteCells l) (by rw [hz1, Lib.byteCells_length, Nat.mul_one]) holds ⟨g0, o0, none⟩ m.length c (Lib.byteCells m) (by rw [hz1, Lib.byteCells_length, Nat.mul_one]) hnews (by omega) (by omega) (by rw [hz2]; exact growslice_fits (by omega) (by omega))
        have hge := grownCap_ge w (l.length + m.length) cap 5
        have hcm2 : grownCap w (l.length + m.length) cap 5 ≤ maxLen := grownCap_le_maxLen w (l.length + m.length) cap 5 (by unfold maxLen; omega)
        refine ⟨_, _, hr, .inr ⟨w.heap.size, 0, _, _, by rw [hlen], hB, heap_alloc_new w.drew _, by omega, hcm2, ?_, ?_⟩, ⟨rfl, rfl, rfl, by simp, fun k hk _ => ((Below.refl w.drew.heap.size w.drew).alloc (Nat.le_refl _) _).block k (by show k < w.heap.size; omega)⟩, .inr rfl⟩
        · have hz1' : (Value.int IntKind.u8 0).cells.size = 1 := rfl
          simp only [Array.size_append, List.size_toArray, size_zeroCells, hz1', Lib.byteCells_length]
          omega
        · simp only [Array.toList_append, List.append_assoc, List.drop_zero]
          rw [← List.append_assoc, ← Lib.byteCells_append]
          have : (l ++ m).length = (Lib.byteCells (l ++ m)).length := by rw [Lib.byteCells_length]
          rw [this]
          exact List.take_left
  · have : m = [] := List.length_eq_zero_iff.1 (by omega)
    subst this
    refine ⟨v, w, ?_, by rw [List.append_nil]; exact h, ⟨rfl, rfl, rfl, Nat.le_refl _, fun _ _ _ => rfl⟩, .inl rfl⟩
    rcases h with ⟨rfl, rfl⟩ | ⟨g, o, cap, cur, rfl, hBg, hg, hn, hcm, hcs, htake⟩
    · cases a <;> simp [Builtin.append_, run_underlying Tryz.underlying22, sizeOf, typeInfo, hi, Builtin.lenOf, Builtin.firstCells, loadCells, loadCellsFrom]
    · cases a <;> simp [Builtin.append_, run_underlying Tryz.underlying22, sizeOf, typeInfo, hi, Builtin.lenOf, Builtin.firstCells, loadCells, loadCellsFrom, storeCells, hn]
end Go.Proofs.YtanebchmeaomgaaGreatDoor
namespace Go.Proofs.YtanebchmeaomgaaGreatDoor
open Go.RowKit M

theorem row_ints (w : World) (ss : List Int) (T : TypeId) (C : Array Value) (n : Nat) (hC : C = (ss.map (Value.int .i64)).toArray) (hn : ss.length = n) : ∀ j, j < n → (w.alloc (.cells C T)).cell? ⟨w.heap.size, j, none⟩ = some (.int .i64 (ss.getD j 0)) := by
  subst hC hn
  intro j hj
  rw [World.cell?_alloc_new]
  simp [List.getD_eq_getElem?_getD, List.getElem?_eq_getElem hj]

/-- l1Int at a list that was just built. -/
theorem intNew {w : World} {N : Nat} {a : Option Addr} {len cap : Nat} {zs : List Int} {c : St} (h : DC w N a len cap zs c) (ss : List Int) (C : Array Value) (T : TypeId) (n M : Nat) (hM : M = w.heap.size) (hC : C = (ss.map (Value.int .i64)).toArray) (hn : ss.length = n) (h0 : 0 < n) (h1 : n ≤ 256) :
    Calls Tryz.prog 48 #[.pointer (some ⟨N, 0, none⟩), .slice (some ⟨M, 0, none⟩) n n] (w.alloc (.cells C T)) fun e w' => e = .returned (.int .i64 (ss.getD (pick zs len c n) 0)) ∧ DC w' N a len cap zs (belowS len c n) ∧ w.grownBy w' (some N) := by
  subst hM
  have hA := h.alloc (.cells C T)
  refine (l1Int_any N w.heap.size a len cap n zs ss c _ hA.cur hA.code h.bN h.hlen h0 h1 (by have := h.lt; omega) (row_ints w ss T C n hC hn)).mono ?_
  rintro e w1 ⟨rfl, hc1, hg1⟩
  exact ⟨rfl, hA.grown hg1 hc1, grown_trans (grown_alloc (grown_refl _ _) _) hg1⟩
end Go.Proofs.YtanebchmeaomgaaGreatDoor
namespace Go.Proofs.YtanebchmeaomgaaGreatDoor
open Go.RowKit M
set_option linter.unusedVariables false

theorem ownY_of {w w' : World} {B : Nat} {v : Value} {l : List UInt8} (h : OwnY w B v l) (hb : ∀ g, v.ownBlock = some g → w'.heap[g]? = w.heap[g]?) : OwnY w' B v l := by
  obtain ⟨g, c, rfl, h'⟩ := h.slice
  exact h'.same (hb g rfl)

set_option maxRecDepth 100000 in
set_option maxHeartbeats 2000000 in
theorem l6Bytes_any {w : World} {N : Nat} {a : Option Addr} {len cap : Nat} {zs : List Int} (h : DX w N a len cap zs) :
    Calls Tryz.prog 40 #[.pointer (some ⟨N, 0, none⟩)] w fun e w' => (∃ v, e = .returned v ∧ RetY w' w.heap.size 12000 v) ∧ DX w' N a len cap zs ∧ w.grownBy w' (some N) := by
  have hlt := h.lt
  have H := hide h
  clear h
  have O0 := hide (OwnY.bare w)
  go_enter Tryz.func40, Tryz.ntmps40
  go_wp2_with fail
  refine (l1BelowX (H.out.alloc (Obj.cells #[] 5)) 3 (by decide) (by decide)).mono ?_
  rintro e w1 ⟨⟨k, rfl, hk⟩, hd1, hg1⟩
  have O1 := hide (ownY_of O0.out (fun g hg => by cases hg; exact hg1.block _ (by simp) (by simp; omega)))
  have G1 := hide (grown_trans (grown_alloc (grown_refl w (some N)) (Obj.cells #[] 5)) hg1)
  have D1 := hide hd1
  clear H O0 hd1 hg1
  go_wp2_with fail
  go_loopw [3, 4] (fun o i wr => ∃ (l : List UInt8) (m : Nat), l.length + 4000 * m ≤ 12000 ∧ i = .int .i64 m ∧ OwnY wr w.heap.size o l ∧ DX wr N a len cap zs ∧ w.grownBy wr (some N)) (fun _ i _ => (intOf i).toNat)
  case atStart => exact ⟨[], 1 + k, by simp; omega, by first | go_num | (congr 1; omega), O1.out, D1.out, G1.out⟩
  case round =>
    clear O1 D1 G1
    obtain ⟨l, m, hlm, rfl, ho, hd, hg⟩ := hrel
    obtain ⟨gb, cb, rfl, ho'⟩ := ho.slice
    have hbd := ho'.bd
    have HO := hide ho'
    have HD := hide hd
    have HG := hide hg
    have hzr := hg.size
    clear ho ho' hd hg
    by_cases h0 : 0 < m
    · have h0' : (0 : Int) < m := by omega
      go_wp2_with fail
      refine (l3Bytes_any HD.out).mono ?_
      rintro e w2 ⟨⟨v, rfl, l6, hl6, hy6⟩, hd2, hg2⟩
      obtain ⟨g6, c6, rfl, hy6'⟩ := hy6.slice
      have hbd6 := hy6'.bd
      have hz2 := hg2.size
      have Y2 := hide (HO.out.same (hg2.block gb hbd.2.2.2.2 (by simp; omega)))
      have Y6 := hide hy6'
      have G2 := hide (grown_trans HG.out hg2)
      have D2 := hide hd2
      clear hy6 hy6' hd2 hg2 HO HD HG
      go_wp2_with (at_builtin; refine wp_append_byts rfl _ _ rfl w.heap.size _ l rfl Y2.out g6 l6 c6 rfl (fun j hj => ?_) (by omega) (by omega) ?_)
      · obtain ⟨b', o', e, _, hc⟩ := (Y6.out.bytAt (C := w2.heap.size) (by omega)) (by omega)
        cases e
        have := hc j hj
        rw [Nat.zero_add] at this
        exact this
      · intro v' w7 o7 gr7 _
        have b7 : Below w.heap.size w2 w7 := ⟨gr7.os, gr7.tape, gr7.output, gr7.size, fun k hk => gr7.block k (by omega) (by simp [Value.ownBlock]; omega)⟩
        have D7 := hide (D2.out.other b7.size (fun k hk => b7.block k (by omega)))
        have G7 := hide (grown_past G2.out b7)
        have O7 := hide o7
        clear o7 gr7 b7 Y2 Y6 G2 D2
        go_wp2
        go_roundw
        case rel => exact ⟨l ++ l6, m - 1, by rw [List.length_append]; omega, by first | go_num | (congr 1; omega), O7.out, D7.out, G7.out⟩
        case measure => simp [intOf]; omega
    · have hk : m = 0 := by omega
      subst hk
      have HF : Hid ((∃ v, Ending.returned (.slice (some ⟨gb, 0, none⟩) l.length cb) = .returned v ∧ RetY wr w.heap.size 12000 v) ∧ DX wr N a len cap zs ∧ w.grownBy wr (some N)) := hide ⟨⟨_, rfl, _, by omega, HO.out⟩, HD.out, HG.out⟩
      go_wp2
      go_ret
      exact HF.out
end Go.Proofs.YtanebchmeaomgaaGreatDoor
namespace Go.Proofs.YtanebchmeaomgaaGreatDoor
open Go.RowKit M
set_option linter.unusedVariables false

set_option maxHeartbeats 1000000 in
theorem at_any {w : World} {B : Nat} {a : Option Addr} {len : Nat} {zs : List Int} (h : CodeIn w B a len zs) (cap i : Nat) (hi : i ≤ 100) :
    Calls Tryz.prog 45 #[.slice a len cap, .int .i64 i] w fun e w' => (∃ k : Nat, k ≤ 255 ∧ e = .returned (.int .i64 k)) ∧ w' = w := by
  have hlen := h.hlen
  by_cases hil : i < len
  · obtain ⟨b, off, rfl, hcell⟩ := h.code.at0 (by omega)
    have hb := h.code.bd i hil
    have hcx := hcell i hil
    have hi' : (i : Int) < (len : Int) := by omega
    clear h hcell
    generalize zs.getD i 0 = z at hb hcx
    obtain ⟨k, rfl⟩ : ∃ k : Nat, z = (k : Int) := ⟨z.toNat, by omega⟩
    have hk : k ≤ 255 := by omega
    have hwk : IntKind.i64.wrap (k : Int) = (k : Int) := by rw [IntKind.wrap_i64]; omega
    clear hb
    go_enter Tryz.func45, Tryz.ntmps45
    go_wp2
    go_ret
    exact ⟨⟨k, hk, by first | rfl | rw [hwk]⟩, rfl⟩
  · have hi' : ¬ ((i : Int) < (len : Int)) := by omega
    have hw1 : IntKind.i64.wrap ((i : Int) * 31) = (i : Int) * 31 := by rw [IntKind.wrap_i64]; omega
    have hw2 : IntKind.i64.wrap ((len : Int) * 7) = (len : Int) * 7 := by rw [IntKind.wrap_i64]; omega
    have hw3 : IntKind.i64.wrap ((i : Int) * 31 + (len : Int) * 7) = (i : Int) * 31 + (len : Int) * 7 := by rw [IntKind.wrap_i64]; omega
    obtain ⟨k, hk⟩ : ∃ k : Nat, k = (i * 31 + len * 7) % 256 := ⟨_, rfl⟩
    have hk255 : k ≤ 255 := by omega
    have hk' : ((i : Int) * 31 + (len : Int) * 7).tmod 256 = (k : Int) := by rw [Int.tmod_eq_emod_of_nonneg (by omega)]; omega
    clear h hk
    go_enter Tryz.func45, Tryz.ntmps45
    go_wp2
    go_ret
    exact ⟨⟨k, hk255, by first | rfl | rw [hk']⟩, rfl⟩
end Go.Proofs.YtanebchmeaomgaaGreatDoor
namespace Go.Proofs.YtanebchmeaomgaaGreatDoor
open Go.RowKit
set_option linter.unusedVariables false

/-- The rows of bytes that a slice of slices holds, all in blocks below B. -/
def Bss (w : World) (B : Nat) (a : Option Addr) (ls : List (List UInt8)) : Prop :=
  0 < ls.length → ∃ b o, a = some ⟨b, o, none⟩ ∧ b < B ∧ ∀ j (hj : j < ls.length), ∃ aj cj, w.cell? ⟨b, o + j, none⟩ = some (.slice aj ls[j].length cj) ∧ Byt w B aj ls[j] ∧ ls[j].length ≤ cj ∧ cj ≤ maxLen
theorem Bss.below {w w' : World} {B C : Nat} {a : Option Addr} {ls : List (List UInt8)} (h : Bss w B a ls) (hb : Below C w w') (hB : B ≤ C) : Bss w' B a ls := fun h0 => by
  obtain ⟨b, o, e, hbB, hc⟩ := h h0
  refine ⟨b, o, e, hbB, fun j hj => ?_⟩
  obtain ⟨aj, cj, h1, h2, h3⟩ := hc j hj
  exact ⟨aj, cj, (hb.cell (p := ⟨b, o + j, none⟩) (Nat.lt_of_lt_of_le hbB hB)).trans h1, h2.below hb hB, h3⟩
theorem Bss.mono {w : World} {B C : Nat} {a : Option Addr} {ls : List (List UInt8)} (h : Bss w B a ls) (hB : B ≤ C) : Bss w C a ls := fun h0 => by
  obtain ⟨b, o, e, hbB, hc⟩ := h h0
  refine ⟨b, o, e, Nat.lt_of_lt_of_le hbB hB, fun j hj => ?_⟩
  obtain ⟨aj, cj, h1, h2, h3⟩ := hc j hj
  exact ⟨aj, cj, h1, h2.mono hB, h3⟩
theorem Bss.next {w w' : World} {a : Option Addr} {ls : List (List UInt8)} (h : Bss w w.heap.size a ls) (hb : Below w.heap.size w w') : Bss w' w'.heap.size a ls := (h.below hb (Nat.le_refl _)).mono hb.size
theorem Bss.nil (w : World) (B : Nat) (a : Option Addr) : Bss w B a [] := fun h => absurd h (Nat.lt_irrefl _)

def sumB (ls : List (List UInt8)) : Nat := (ls.map List.length).sum
theorem sumB_snoc (ls : List (List UInt8)) (k : Nat) (h : k < ls.length) : sumB (ls.take (k + 1)) = sumB (ls.take k) + (ls[k]).length := by
  unfold sumB
  rw [List.take_succ_eq_append_getElem h, List.map_append, List.sum_append]
  simp
theorem sumB_all (ls : List (List UInt8)) (k : Nat) (h : ¬ k < ls.length) : sumB (ls.take k) = sumB ls := by rw [List.take_of_length_le (by omega)]
theorem sumB_le (ls : List (List UInt8)) (k : Nat) : sumB (ls.take k) ≤ sumB ls := by
  have : sumB ls = sumB (ls.take k) + sumB (ls.drop k) := by
    unfold sumB
    rw [← List.sum_append, ← List.map_append, List.take_append_drop]
  omega
theorem sumB_at (ls : List (List UInt8)) (k : Nat) (h : k < ls.length) : (ls[k]).length ≤ sumB ls := by
  have h1 := sumB_snoc ls k h
  have h2 := sumB_le ls (k + 1)
  omega
theorem sumB_flat (ls : List (List UInt8)) : ls.flatten.length = sumB ls := by simp [sumB, List.length_flatten]
end Go.Proofs.YtanebchmeaomgaaGreatDoor
namespace Go.Proofs.YtanebchmeaomgaaGreatDoor
open Go.RowKit M
set_option linter.unusedVariables false

theorem info_sl : (Tryz.prog.info? 22).map (fun i => (i.zero, i.size, i.bytes)) = some (some (.slice none 0 0), 1, 24) := by kernel_rfl
/-- A row of slices that the call made. -/
def OwnV (w : World) (B : Nat) (v : Value) (cs : List Value) : Prop := w.ownsRow B 22 1 v cs.length cs
theorem OwnV.alloc {w : World} {B : Nat} {v : Value} {cs : List Value} (h : OwnV w B v cs) (o : Obj) : OwnV (w.alloc o) B v cs := World.ownsRow.alloc h o
theorem wp_append_sl {w : World} {ops : Array Oper} {rest : List Oper} {o : Oper} {a : Act} {Q : Exit → Act → World → Prop} (hgd : o.guard = none) (s x : Operand)
    (ho : o.op = .call { callee := .builtin .append, args := #[s, x], argTypes := #[24, 24] })
    (B : Nat) (v : Value) (cs : List Value) (hs : a.eval s = v) (hown : OwnV w B v cs)
    (ad : Addr) (ax : Option Addr) (n c : Nat) (hx : a.eval x = .slice (some ad) 1 1) (hcell : w.cell? ad = some (.slice ax n c)) (hlen : cs.length + 1 ≤ 1048576) (hB : B ≤ w.heap.size)
    (h : ∀ v' w', OwnV w' B v' (cs ++ [.slice ax n c]) → w.grownBy w' v.ownBlock → wpList Tryz.prog ops Q rest (a.put o.dst v') w') : wpList Tryz.prog ops Q (o :: rest) a w := by
  obtain ⟨i0, hi, hz0, hz1, hz2⟩ := info_parts info_sl
  refine wpList_append_own w hgd s x 24 ho B 22 i0 (.slice none 0 0) 1 24 Tryz.underlying24 hi hz0 hz1 hz2 rfl (by decide) v cs.length _ hs hown ad 1 1 [.slice ax n c] hx rfl ?_ ?_ ?_ ?_ hB ?_
  · intro j u hj
    match j, hj with
    | 0, hj =>
      simp at hj; subst hj
      have : ad.add 0 = ad := by unfold Addr.add; split <;> simp_all
      rw [this]; exact hcell
  · intro u hu; simp at hu; subst hu; rfl
  · unfold maxLen; omega
  · omega
  · intro v' w' ho' hg _
    refine h v' w' ?_ hg
    unfold OwnV
    rw [List.length_append]
    exact ho'
theorem Byt.dropAt {w : World} {B g o : Nat} {l : List UInt8} (h : Byt w B (some ⟨g, o, none⟩) l) (n c : Nat) (hc : l.length ≤ c) : Byt w B (if c = n then some ⟨g, o, none⟩ else some ⟨g, o + n, none⟩) (l.drop n) := fun h0 => by
  rw [List.length_drop] at h0
  obtain ⟨g', o', e, hg, hcell⟩ := h (by omega)
  cases e
  rw [if_neg (by omega)]
  refine ⟨g, o + n, rfl, hg, fun j hj => ?_⟩
  rw [List.length_drop] at hj
  have := hcell (n + j) (by omega)
  rw [List.getElem_drop, Nat.add_assoc]
  exact this
/-- The slices of this row hold these bytes, one part behind the other. -/
def Parts (w : World) (B : Nat) (cs : List Value) (ls : List (List UInt8)) : Prop := cs.length = ls.length ∧ ∀ j (hj : j < ls.length), ∃ aj cj, cs[j]? = some (.slice aj ls[j].length cj) ∧ Byt w B aj ls[j] ∧ ls[j].length ≤ cj ∧ cj ≤ maxLen
theorem Parts.snoc {w : World} {B : Nat} {cs : List Value} {ls : List (List UInt8)} (h : Parts w B cs ls) {a : Option Addr} {l : List UInt8} {c : Nat} (hy : Byt w B a l) (h1 : l.length ≤ c) (h2 : c ≤ maxLen) : Parts w B (cs ++ [.slice a l.length c]) (ls ++ [l]) := by
  refine ⟨by simp [h.1], fun j hj => ?_⟩
  rw [List.length_append, List.length_singleton] at hj
  by_cases hjl : j < ls.length
  · obtain ⟨aj, cj, e, r⟩ := h.2 j hjl
    refine ⟨aj, cj, ?_, ?_⟩
    · rw [List.getElem?_append_left (by rw [h.1]; exact hjl), List.getElem_append_left hjl]; exact e
    · rw [List.getElem_append_left hjl]; exact r
  · have hje : j = ls.length := by omega
    subst hje
    refine ⟨a, c, ?_, ?_⟩
    · rw [List.getElem?_append_right (by rw [h.1]; exact Nat.le_refl _), h.1]; simp
    · simp only [List.getElem_append_right (Nat.le_refl _), Nat.sub_self, List.getElem_cons_zero]; exact ⟨hy, h1, h2⟩
theorem Parts.keep {w w' : World} {B C : Nat} {cs : List Value} {ls : List (List UInt8)} (h : Parts w B cs ls) (hb : Below C w w') (hB : B ≤ C) : Parts w' B cs ls :=
  ⟨h.1, fun j hj => by obtain ⟨aj, cj, e, hy, r⟩ := h.2 j hj; exact ⟨aj, cj, e, hy.below hb hB, r⟩⟩
theorem Parts.bss {w : World} {B : Nat} {v : Value} {cs : List Value} {ls : List (List UInt8)} (h : Parts w B cs ls) (ho : OwnV w B v cs) (hB : B ≤ w.heap.size) : ∃ a c, v = .slice a ls.length c ∧ Bss w w.heap.size a ls := by
  obtain ⟨hn, ho⟩ := ho
  rcases ho with ⟨rfl, h0⟩ | ⟨g, cap, cur, rfl, hBg, hg, h1, h2, h3, h4⟩
  · have : cs.length = 0 := by omega
    have hl : ls.length = 0 := by rw [← h.1]; exact this
    exact ⟨none, 0, by rw [hl], fun h0 => absurd h0 (by omega)⟩
  · refine ⟨some ⟨g, 0, none⟩, cap, by rw [h.1], fun _ => ⟨g, 0, rfl, (Array.getElem?_eq_some_iff.1 hg).1, fun j hj => ?_⟩⟩
    obtain ⟨aj, cj, e, hy, r⟩ := h.2 j hj
    refine ⟨aj, cj, ?_, hy.mono hB, r⟩
    have hx : cur.toList[j]? = some (.slice aj ls[j].length cj) := by
      rw [← e, ← h4, List.getElem?_take, if_pos (by rw [h.1]; omega)]
    rw [Nat.zero_add]
    simp [World.cell?, hg]
    simpa using hx
theorem belowO {w w' : World} {C : Nat} {v : Value} (h : w.grownBy w' v.ownBlock) (hC : ∀ g, v.ownBlock = some g → C ≤ g) (hz : C ≤ w.heap.size) : Below C w w' :=
  ⟨h.os, h.tape, h.output, h.size, fun k hk => h.block k (by omega) (fun e => by have := hC k e.symm; omega)⟩

set_option maxRecDepth 100000 in
set_option maxHeartbeats 4000000 in
theorem cut_any {w : World} {B : Nat} {a : Option Addr} {len : Nat} {zs : List Int} (hc : CodeIn w B a len zs) (hB : B ≤ w.heap.size) (cap g o : Nat) (l : List UInt8) (c : Nat) (hy : Byt w w.heap.size (some ⟨g, o, none⟩) l) (hl : l.length ≤ c) (hcm : c ≤ maxLen) :
    Calls Tryz.prog 11 #[.slice a len cap, .slice (some ⟨g, o, none⟩) l.length c] w fun e w' => (∃ (a' : Option Addr) (c' : Nat) (ls : List (List UInt8)), e = .returned (.slice a' ls.length c') ∧ ls.flatten = l ∧ ls.length ≤ 41 ∧ Bss w' w'.heap.size a' ls) ∧ Below w.heap.size w w' := by
  have HC := hide hc
  have HY0 := hide hy
  have O0 : Hid (OwnV (w.alloc (Obj.cells #[] 22)) w.heap.size (.slice (some ⟨w.heap.size, 0, none⟩) 0 0) []) :=
    ⟨rfl, .inr ⟨w.heap.size, 0, #[], rfl, Nat.le_refl _, heap_alloc_new w _, Nat.le_refl _, Nat.zero_le _, rfl, rfl⟩⟩
  clear hc hy
  go_enter Tryz.func11, Tryz.ntmps11
  go_wp2
  go_loopw [1, 5, 6] (fun b v i wr => ∃ (k : Nat) (ls : List (List UInt8)) (lr : List UInt8) (g1 o1 cr : Nat) (cs : List Value), k ≤ 40 ∧ ls.length = k ∧ i = .int .i64 k ∧ b = .slice (some ⟨g1, o1, none⟩) lr.length cr ∧ lr.length ≤ cr ∧ cr ≤ maxLen ∧ ls.flatten ++ lr = l ∧ Byt w w.heap.size (some ⟨g1, o1, none⟩) lr ∧ Parts w w.heap.size cs ls ∧ OwnV wr w.heap.size v cs ∧ Below w.heap.size w wr) (fun _ _ i _ => 50 - (intOf i).toNat)
  case atStart => exact ⟨0, [], l, g, o, c, [], Nat.zero_le _, rfl, rfl, rfl, hl, hcm, rfl, HY0.out, ⟨rfl, fun j hj => absurd hj (Nat.not_lt_zero _)⟩, O0.out, (Below.refl _ _).alloc (Nat.le_refl _) _⟩
  case round =>
    clear O0 HY0 hl hcm
    obtain ⟨k, ls, lr, g1, o1, cr, cs, hk, hls, rfl, rfl, hlc, hcm, hfl, hyr, hps, how, hbe⟩ := hrel
    have HFl := hide hfl
    have HY := hide hyr
    have HP := hide hps
    have HO := hide how
    have HB := hide hbe
    have hcs : cs.length = k := by rw [hps.1, hls]
    have HLs := hide hls
    have hz := hbe.size
    clear hfl hyr hps how hbe hls
    have hm64 : maxLen ≤ 9223372036854775807 := by unfold maxLen; omega
    by_cases h0 : lr.length = 0
    · have h0i : ¬ ((0 : Int) < (lr.length : Int)) := by omega
      have h0n : ¬ (0 < lr.length) := by omega
      clear h0
      clear HC
      go_wp2_with (at_builtin; refine wp_append_sl rfl _ _ rfl w.heap.size _ cs rfl (HO.out.alloc _) _ (some ⟨g1, o1, none⟩) lr.length cr rfl ?_ ?_ ?_ ?_)
      · omega
      · omega
      · intro v' w' ho' hg'
        have hB1 := (HB.out.alloc hz _).trans (belowO hg' (fun g hg => (World.ownsRow.lt HO.out g hg).1) (by simp; omega))
        obtain ⟨a2, c2, rfl, hbs⟩ := ((HP.out.snoc HY.out hlc hcm).keep hB1 (Nat.le_refl _)).bss ho' hB1.size
        have HBs := hide hbs
        have HB1 := hide hB1
        have hlen := HLs.out
        clear hbs hB1 ho' hg'
        go_wp2
        go_ret
        exact ⟨⟨a2, c2, ls ++ [lr], rfl, by rw [List.flatten_append, List.flatten_cons, List.flatten_nil, List.append_nil]; exact HFl.out, by rw [List.length_append, List.length_singleton]; omega, HBs.out⟩, HB1.out⟩
    by_cases hk40 : (k : Int) < 40
    rotate_left
    · have h0i : (0 : Int) < (lr.length : Int) := by omega
      have h0n : 0 < lr.length := by omega
      clear HC
      go_wp2_with (at_builtin; refine wp_append_sl rfl _ _ rfl w.heap.size _ cs rfl (HO.out.alloc _) _ (some ⟨g1, o1, none⟩) lr.length cr rfl ?_ ?_ ?_ ?_)
      · omega
      · omega
      · intro v' w' ho' hg'
        have hB1 := (HB.out.alloc hz _).trans (belowO hg' (fun g hg => (World.ownsRow.lt HO.out g hg).1) (by simp; omega))
        obtain ⟨a2, c2, rfl, hbs⟩ := ((HP.out.snoc HY.out hlc hcm).keep hB1 (Nat.le_refl _)).bss ho' hB1.size
        have HBs := hide hbs
        have HB1 := hide hB1
        have hlen := HLs.out
        clear hbs hB1 ho' hg'
        go_wp2
        go_ret
        exact ⟨⟨a2, c2, ls ++ [lr], rfl, by rw [List.flatten_append, List.flatten_cons, List.flatten_nil, List.append_nil]; exact HFl.out, by rw [List.length_append, List.length_singleton]; omega, HBs.out⟩, HB1.out⟩
    have h0i : (0 : Int) < (lr.length : Int) := by omega
    have h0n : 0 < lr.length := by omega
    have hw9 : IntKind.i64.wrap ((k : Int) + 9) = (k : Int) + 9 := by rw [IntKind.wrap_i64]; omega
    have HA : Hid (∀ W, Below w.heap.size w W → Calls Tryz.prog 45 #[.slice a len cap, .int .i64 ((k : Int) + 9)] W fun e w' => (∃ p : Nat, p ≤ 255 ∧ e = .returned (.int .i64 p)) ∧ w' = W) := fun W hb => at_any (HC.out.below (hb.mono hB)) cap (k + 9) (by omega)
    go_wp2_with fail
    refine (HA.out _ HB.out).mono ?_
    rintro e w2 ⟨⟨p, hp, rfl⟩, hw2⟩
    obtain rfl := hw2.symm
    clear hw2 HA
    obtain ⟨q, hq⟩ : ∃ q : Nat, q = p % 9 := ⟨_, rfl⟩
    have htm : (p : Int).tmod 9 = (q : Int) := by rw [Int.tmod_eq_emod_of_nonneg (by omega)]; omega
    obtain ⟨n, hn⟩ : ∃ n : Nat, n = 1 + q := ⟨_, rfl⟩
    have hwn : IntKind.i64.wrap (1 + (q : Int)) = (n : Int) := by rw [IntKind.wrap_i64]; omega
    have hn0 : 0 < n := by omega
    clear hq hn
    by_cases hgt : (lr.length : Int) < (n : Int)
    · by_cases hcM : cr = lr.length
      · have hcM2 : lr.length = cr := hcM.symm
        clear hcM
        subst hcM2
        have hMt : (lr.take lr.length).length = lr.length := by rw [List.length_take]; omega
        have hMi : (lr.length : Int) ≤ (lr.length : Int) := by omega
        have hyd := HY.out.dropAt lr.length lr.length hlc
        rw [if_pos rfl] at hyd
        have HYd := hide hyd
        have hps2 := HP.out.snoc (HY.out.take lr.length) (by omega) hcm
        rw [hMt] at hps2
        have HPs := hide hps2
        clear hyd hps2
        go_wp2_with (at_builtin; refine wp_append_sl rfl _ _ rfl w.heap.size _ cs rfl (HO.out.alloc _) _ (some ⟨g1, o1, none⟩) lr.length lr.length rfl ?_ ?_ ?_ ?_)
        · simp
        · omega
        · simp; omega
        · intro v' w' ho' hg'
          have hB1 := (HB.out.alloc hz _).trans (belowO hg' (fun g hg => (World.ownsRow.lt HO.out g hg).1) (by simp; omega))
          have HB1 := hide hB1
          have HO1 := hide ho'
          have hlen := HLs.out
          clear hB1 ho' hg'
          go_wp2
          go_roundw
          case rel => exact ⟨k + 1, ls ++ [lr.take lr.length], lr.drop lr.length, g1, o1, 0, _, by omega, by rw [List.length_append, List.length_singleton, hlen], by go_num, by first | rfl | (rw [List.length_drop]; done) | (rw [List.length_drop, show lr.length - lr.length = 0 by omega]), by rw [List.length_drop]; omega, by omega, by simp only [List.flatten_append, List.flatten_cons, List.flatten_nil, List.append_nil, List.append_assoc, List.take_append_drop]; exact HFl.out, HYd.out, HPs.out, HO1.out, HB1.out⟩
          case measure => simp [intOf]; omega
      · have hMt : (lr.take lr.length).length = lr.length := by rw [List.length_take]; omega
        have hMi : (lr.length : Int) ≤ (cr : Int) := by omega
        have hyd := HY.out.dropAt lr.length cr hlc
        rw [if_neg hcM] at hyd
        have HYd := hide hyd
        have hps2 := HP.out.snoc (HY.out.take lr.length) (by omega) hcm
        rw [hMt] at hps2
        have HPs := hide hps2
        clear hyd hps2
        go_wp2_with (at_builtin; refine wp_append_sl rfl _ _ rfl w.heap.size _ cs rfl (HO.out.alloc _) _ (some ⟨g1, o1, none⟩) lr.length cr rfl ?_ ?_ ?_ ?_)
        · simp
        · omega
        · simp; omega
        · intro v' w' ho' hg'
          have hB1 := (HB.out.alloc hz _).trans (belowO hg' (fun g hg => (World.ownsRow.lt HO.out g hg).1) (by simp; omega))
          have HB1 := hide hB1
          have HO1 := hide ho'
          have hlen := HLs.out
          clear hB1 ho' hg'
          go_wp2
          go_roundw
          case rel => exact ⟨k + 1, ls ++ [lr.take lr.length], lr.drop lr.length, g1, o1 + lr.length, cr - lr.length, _, by omega, by rw [List.length_append, List.length_singleton, hlen], by go_num, by first | rfl | (rw [List.length_drop]; done) | (rw [List.length_drop, show lr.length - lr.length = 0 by omega]), by rw [List.length_drop]; omega, by omega, by simp only [List.flatten_append, List.flatten_cons, List.flatten_nil, List.append_nil, List.append_assoc, List.take_append_drop]; exact HFl.out, HYd.out, HPs.out, HO1.out, HB1.out⟩
          case measure => simp [intOf]; omega
    · by_cases hcM : cr = n
      · have hcM2 : n = cr := hcM.symm
        clear hcM
        subst hcM2
        have hMl : n ≤ lr.length := by omega
        have hMt : (lr.take n).length = n := by rw [List.length_take]; omega
        have hMi : (n : Int) ≤ (n : Int) := by omega
        have hMj : (n : Int) ≤ (lr.length : Int) := by omega
        have hyd := HY.out.dropAt n n hlc
        rw [if_pos rfl] at hyd
        have HYd := hide hyd
        have hps2 := HP.out.snoc (HY.out.take n) (by omega) hcm
        rw [hMt] at hps2
        have HPs := hide hps2
        clear hyd hps2
        go_wp2_with (at_builtin; refine wp_append_sl rfl _ _ rfl w.heap.size _ cs rfl (HO.out.alloc _) _ (some ⟨g1, o1, none⟩) n n rfl ?_ ?_ ?_ ?_)
        · simp
        · omega
        · simp; omega
        · intro v' w' ho' hg'
          have hB1 := (HB.out.alloc hz _).trans (belowO hg' (fun g hg => (World.ownsRow.lt HO.out g hg).1) (by simp; omega))
          have HB1 := hide hB1
          have HO1 := hide ho'
          have hlen := HLs.out
          clear hB1 ho' hg'
          go_wp2
          go_roundw
          case rel => exact ⟨k + 1, ls ++ [lr.take n], lr.drop n, g1, o1, 0, _, by omega, by rw [List.length_append, List.length_singleton, hlen], by go_num, by first | rfl | (rw [List.length_drop]; done) | (rw [List.length_drop, show lr.length - n = 0 by omega]), by rw [List.length_drop]; omega, by omega, by simp only [List.flatten_append, List.flatten_cons, List.flatten_nil, List.append_nil, List.append_assoc, List.take_append_drop]; exact HFl.out, HYd.out, HPs.out, HO1.out, HB1.out⟩
          case measure => simp [intOf]; omega
      · have hMl : n ≤ lr.length := by omega
        have hMt : (lr.take n).length = n := by rw [List.length_take]; omega
        have hMi : (n : Int) ≤ (cr : Int) := by omega
        have hMj : (n : Int) ≤ (lr.length : Int) := by omega
        have hyd := HY.out.dropAt n cr hlc
        rw [if_neg hcM] at hyd
        have HYd := hide hyd
        have hps2 := HP.out.snoc (HY.out.take n) (by omega) hcm
        rw [hMt] at hps2
        have HPs := hide hps2
        clear hyd hps2
        go_wp2_with (at_builtin; refine wp_append_sl rfl _ _ rfl w.heap.size _ cs rfl (HO.out.alloc _) _ (some ⟨g1, o1, none⟩) n cr rfl ?_ ?_ ?_ ?_)
        · simp
        · omega
        · simp; omega
        · intro v' w' ho' hg'
          have hB1 := (HB.out.alloc hz _).trans (belowO hg' (fun g hg => (World.ownsRow.lt HO.out g hg).1) (by simp; omega))
          have HB1 := hide hB1
          have HO1 := hide ho'
          have hlen := HLs.out
          clear hB1 ho' hg'
          go_wp2
          go_roundw
          case rel => exact ⟨k + 1, ls ++ [lr.take n], lr.drop n, g1, o1 + n, cr - n, _, by omega, by rw [List.length_append, List.length_singleton, hlen], by go_num, by first | rfl | (rw [List.length_drop]; done) | (rw [List.length_drop, show lr.length - n = 0 by omega]), by rw [List.length_drop]; omega, by omega, by simp only [List.flatten_append, List.flatten_cons, List.flatten_nil, List.append_nil, List.append_assoc, List.take_append_drop]; exact HFl.out, HYd.out, HPs.out, HO1.out, HB1.out⟩
          case measure => simp [intOf]; omega
end Go.Proofs.YtanebchmeaomgaaGreatDoor
