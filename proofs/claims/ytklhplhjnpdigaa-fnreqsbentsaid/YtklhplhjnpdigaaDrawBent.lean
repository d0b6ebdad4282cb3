/-
  The draws of the law on bent requests.
-/
import Derived.Test.YtklhplhjnpdigaaDrawAny
import Derived.Test.YtklhplhjnpdigaaBoxReq
import Derived.Test.YtklhplhjnpdigaaDrawO
namespace Go.Proofs.Ytklhplhjnpdigaa
open Go.RowKit M
set_option linter.unusedVariables false

/-- What a draw of a request returns. -/
def RetR (w' : World) (v : Value) : Prop := ∃ (r : Rq) (g c : Nat), SmallR r ∧ v = .agg #[.string r.m, .string r.p, .slice (some ⟨g, 0, none⟩) r.hs.length c, .string r.b] ∧ Hds w' w'.heap.size (some ⟨g, 0, none⟩) r.hs

theorem below_of_cur {w w1 w2 : World} (hb : Below w.heap.size w w1) (hg : w1.grownBy w2 (some w.heap.size)) : Below w.heap.size w w2 :=
  hb.trans ⟨hg.os, hg.tape, hg.output, hg.size, fun k hk => hg.block k (Nat.lt_of_lt_of_le hk hb.size) (by simp; omega)⟩

set_option maxRecDepth 100000 in
set_option maxHeartbeats 1000000 in
theorem drawReqOk_any {w : World} {B : Nat} {a : Option Addr} {len : Nat} {zs : List Int} (h : CodeIn w B a len zs) (hB : B ≤ w.heap.size) (cap : Nat) :
    Calls Try.prog 7 #[.slice a len cap] w fun e w' => (∃ v, e = .returned v ∧ RetR w' v) ∧ Below w.heap.size w w' := by
  have H := hide h
  clear h
  go_enter Try.func7, Try.ntmps7
  have hb0 : Below w.heap.size w (w.alloc (Obj.cells #[Value.string { data := #[] }, Value.string { data := #[] }, Value.slice none 0 0, Value.string { data := #[] }] 26)) := (Below.refl _ _).alloc (Nat.le_refl _) _
  have hz0 : (w.alloc (Obj.cells #[Value.string { data := #[] }, Value.string { data := #[] }, Value.slice none 0 0, Value.string { data := #[] }] 26)).heap.size = w.heap.size + 1 := by simp
  have HN := hide (newDX (H.out.below (hb0.mono hB)) cap)
  have HR0 := hide (Ret4.made w 26)
  have HB0 := hide hb0
  have HZ0 := hide hz0
  clear hb0 hz0
  go_wp2_with fail
  refine HN.out.mono ?_
  rintro e w1 ⟨rfl, hd1, b1⟩
  have z1 := b1.size
  rw [HZ0.out] at hd1 b1 z1
  have r1 := HR0.out.of b1.size (b1.block w.heap.size (by omega))
  have c1 := HB0.out.trans (b1.mono (by omega))
  have D1 := hide hd1
  have R1 := hide r1
  clear hd1 b1 r1 HN
  go_wp2_with fail
  refine (l3Any_any D1.out).mono ?_
  rintro e w2 ⟨⟨r, g, c, hs, rfl, ho⟩, hd2, hg2⟩
  have r2 := R1.out.of hg2.size (hg2.block w.heap.size R1.out.1 (by simp))
  have hgl := ho.lt g rfl
  have hgw : g ≠ w.heap.size := by omega
  have c2 : Below w.heap.size w w2 := c1.trans ⟨hg2.os, hg2.tape, hg2.output, hg2.size, fun k hk => hg2.block k (by omega) (by simp; omega)⟩
  have O2 := hide ho
  have HS := hide hs
  clear ho hd2 hg2 hs
  obtain ⟨_, ⟨t0, z0⟩, ⟨t1, z1⟩, ⟨t2, z2⟩, ⟨t3, z3⟩, e0, e1, e2, e3⟩ := r2
  go_wp2
  refine bodyPost_ret (v := .agg #[.string r.m, .string r.p, .slice (some ⟨g, 0, none⟩) r.hs.length c, .string r.b]) (by simp [results, Try.results7, go_sem, z0, z1, z2, z3]) rfl ⟨⟨_, rfl, r, g, c, HS.out, rfl, ?_⟩, c2.trans (below_sets (Nat.le_refl _) _ _ _ _)⟩
  exact ownsH_hds (ownsH_set (ownsH_set (ownsH_set (ownsH_set O2.out (fun e => hgw e.symm)) (fun e => hgw e.symm)) (fun e => hgw e.symm)) (fun e => hgw e.symm)) rfl

theorem onceX {w : World} {N : Nat} {a : Option Addr} {len cap : Nat} {zs : List Int} (h : DX w N a len cap zs) :
    Calls Try.prog 21 #[.pointer (some ⟨N, 0, none⟩), .int .i64 2] w fun e w' => (∃ b : Bool, e = .returned (.bool b)) ∧ DX w' N a len cap zs ∧ w.grownBy w' (some N) := by
  obtain ⟨c, h⟩ := h
  refine (l1Once_any N a len cap zs c 2 w h.cur h.code h.bN h.hlen (by decide) (by decide)).mono ?_
  rintro e w1 ⟨rfl, hc1, hg1⟩
  exact ⟨⟨_, rfl⟩, ⟨_, h.grown hg1 hc1⟩, hg1⟩

def nameD : List ByteArray := [⟨#[105, 102]⟩, ⟨#[100, 101, 112, 116, 104]⟩, ⟨#[120, 45, 97]⟩, ⟨#[104, 111, 115, 116]⟩]

set_option maxRecDepth 100000 in
set_option maxHeartbeats 1000000 in
theorem drawHeadOf_any {w : World} {B : Nat} {a : Option Addr} {len : Nat} {zs : List Int} (h : CodeIn w B a len zs) (hB : B ≤ w.heap.size) (cap : Nat) :
    Calls Try.prog 9 #[.slice a len cap] w fun e w' => (∃ (hs : List Hd) (g c : Nat) (s : ByteArray), FewH 2 hs ∧ s.size ≤ 20 ∧ e = .returned (.tuple #[.slice (some ⟨g, 0, none⟩) hs.length c, .string s]) ∧ Hds w' w'.heap.size (some ⟨g, 0, none⟩) hs) ∧ Below w.heap.size w w' := by
  have HN := hide (newDX h cap)
  clear h
  go_enter Try.func9, Try.ntmps9
  go_wp2_with fail
  refine HN.out.mono ?_
  rintro e w1 ⟨rfl, hd1, b1⟩
  have D1 := hide hd1
  clear hd1 HN
  go_wp2_with fail
  refine (l3DrawHeads_any D1.out).mono ?_
  rintro e w2 ⟨⟨hs, n, g, c, hf, hn, rfl, ho⟩, hd2, hg2⟩
  have c2 := below_of_cur b1 hg2
  have D2 := hide hd2
  have O2 := hide ho
  have HF := hide hf
  have HNn := hide hn
  have hl1 : w.heap.size < w1.heap.size := D1.out.lt
  have hz2 := hg2.size
  clear hd2 hg2 ho hf hn
  go_wp2_with fail
  refine (strNewX D2.out nameD _ _ 4 _ rfl rfl rfl (by decide) (by decide) (by decide)).mono ?_
  rintro e w3 ⟨⟨x, rfl, hx⟩, hd3, hg3⟩
  have c3 : Below w.heap.size w w3 := c2.trans ⟨hg3.os, hg3.tape, hg3.output, hg3.size, fun k hk => hg3.block k (by omega) (by simp; omega)⟩
  have O3 := hide (ownsH_grown O2.out hg3 hl1)
  clear hd3 hg3
  go_wp2
  go_ret2
  refine ⟨⟨hs, g, c, x, HF.out, hx, by rw [HNn.out]; rfl, ?_⟩, c3⟩
  exact ownsH_hds O3.out HNn.out

/-- 'append' of the heads of another row onto an empty one. -/
theorem wp_append_heads {ops : Array Oper} {rest : List Oper} {o : Oper} {a : Act} {W : World} {Q : Exit → Act → World → Prop} (hg : o.guard = none) (s x : Operand)
    (ho : o.op = .call { callee := .builtin .append, args := #[s, x], argTypes := #[24, 24] })
    (B b g n c : Nat) (l : List Hd) (hs : a.eval s = .slice (some ⟨b, 0, none⟩) 0 0) (hown : W.ownsRow B 51 2 (.slice (some ⟨b, 0, none⟩) 0 0) 0 (hdCells []))
    (hx : a.eval x = .slice (some ⟨g, 0, none⟩) n c) (hn : n = l.length) (hh : Hds W W.heap.size (some ⟨g, 0, none⟩) l) (hlen : n ≤ 1048576) (hB : B ≤ W.heap.size)
    (hK : ∀ g' c' w', w'.ownsRow B 51 2 (.slice (some ⟨g', 0, none⟩) n c') n (hdCells l) → W.grownBy w' (some b) → wpList Try.prog ops Q rest (a.put o.dst (.slice (some ⟨g', 0, none⟩) n c')) w') : wpList Try.prog ops Q (o :: rest) a W := by
  obtain ⟨i0, hi, hz0, hz1, hz2⟩ := info_parts infoHd
  refine wpList_append_own W hg s x 24 ho B 51 i0 _ 2 32 Try.underlying24 hi hz0 hz1 hz2 rfl (by decide) _ 0 _ hs hown ⟨g, 0, none⟩ n c (hdCells l) hx (by rw [hdCells_length, hn]) ?_ ?_ ?_ ?_ hB ?_
  · intro j u hj
    have e : ∀ k, (⟨g, 0, none⟩ : Addr).add k = ⟨g, k, none⟩ := fun k => by unfold Addr.add; split <;> simp_all
    rw [e]
    have hjl : j < l.length * 2 := by rw [← hdCells_length]; exact (List.getElem?_eq_some_iff.1 hj).1
    obtain ⟨b', o', hb', _, hc⟩ := hh (by omega)
    cases hb'
    have hq := hdCells_at l (j / 2) (by omega)
    have hc2 := hc (j / 2) (by omega)
    have e2 : j = j / 2 * 2 ∨ j = j / 2 * 2 + 1 := by omega
    rcases e2 with e2 | e2 <;> rw [e2] at hj ⊢
    · rw [hq.1] at hj; injection hj with hj; subst hj; rw [Nat.zero_add] at hc2; exact hc2.1
    · rw [hq.2] at hj; injection hj with hj; subst hj; rw [Nat.zero_add] at hc2; exact hc2.2
  · intro u hu
    simp only [hdCells, List.mem_flatMap] at hu
    obtain ⟨h, _, hu⟩ := hu
    simp at hu; rcases hu with rfl | rfl <;> rfl
  · unfold maxLen; omega
  · omega
  · intro v' w' ho' hg' hnn
    rw [Nat.zero_add] at ho'
    obtain ⟨g', c', rfl⟩ : ∃ g' c', v' = .slice (some ⟨g', 0, none⟩) n c' := by
      rcases ho'.2 with ⟨hv, h0⟩ | ⟨g, cap, cur, hv, _⟩
      · have := hnn.1 hv; simp at this
      · exact ⟨g, cap, hv⟩
    exact hK g' c' w' ho' hg'

theorem hdsD {X : World} {a : Option Addr} {hs : List Hd} (h : Hds X X.heap.size a hs) : Hds X.drew X.drew.heap.size a hs := h

set_option maxRecDepth 100000 in
set_option maxHeartbeats 2000000 in
theorem drawSameReq_any {w : World} {B : Nat} {a : Option Addr} {len : Nat} {zs : List Int} (h : CodeIn w B a len zs) (hB : B ≤ w.heap.size) (cap : Nat) :
    Calls Try.prog 8 #[.slice a len cap] w fun e w' => (∃ v u, e = .returned (.tuple #[v, u]) ∧ RetR w' v ∧ RetR w' u) ∧ Below w.heap.size w w' := by
  have H := hide h
  clear h
  go_enter Try.func8, Try.ntmps8
  have hb0 : Below w.heap.size w ((w.alloc (Obj.cells #[Value.string { data := #[] }, Value.string { data := #[] }, Value.slice none 0 0, Value.string { data := #[] }] 26)).alloc (Obj.cells #[Value.string { data := #[] }, Value.string { data := #[] }, Value.slice none 0 0, Value.string { data := #[] }] 26)) := ((Below.refl _ _).alloc (Nat.le_refl _) _).alloc (by simp) _
  have hz0 : ((w.alloc (Obj.cells #[Value.string { data := #[] }, Value.string { data := #[] }, Value.slice none 0 0, Value.string { data := #[] }] 26)).alloc (Obj.cells #[Value.string { data := #[] }, Value.string { data := #[] }, Value.slice none 0 0, Value.string { data := #[] }] 26)).heap.size = w.heap.size + 1 + 1 := by simp
  have HN := hide (newDX (H.out.below (hb0.mono hB)) cap)
  have hr0 := (Ret4.made w 26).of (w' := (w.alloc (Obj.cells #[Value.string { data := #[] }, Value.string { data := #[] }, Value.slice none 0 0, Value.string { data := #[] }] 26)).alloc (Obj.cells #[Value.string { data := #[] }, Value.string { data := #[] }, Value.slice none 0 0, Value.string { data := #[] }] 26)) (by simp) (((Below.refl (w.heap.size + 1) _).alloc (by simp) _).block w.heap.size (by omega))
  have hr1 := Ret4.made (w.alloc (Obj.cells #[Value.string { data := #[] }, Value.string { data := #[] }, Value.slice none 0 0, Value.string { data := #[] }] 26)) 26
  have hz1 : (w.alloc (Obj.cells #[Value.string { data := #[] }, Value.string { data := #[] }, Value.slice none 0 0, Value.string { data := #[] }] 26)).heap.size = w.heap.size + 1 := by simp
  rw [hz1] at hr1
  have HR0 := hide hr0
  have HR1 := hide hr1
  have HB0 := hide hb0
  have HZ0 := hide hz0
  clear hb0 hz0 hr0 hr1 hz1
  go_wp2_with fail
  refine HN.out.mono ?_
  rintro e w1 ⟨rfl, hd1, b1⟩
  have z1 := b1.size
  rw [HZ0.out] at hd1 b1 z1
  have R0 := hide (HR0.out.of b1.size (b1.block w.heap.size (by omega)))
  have R1 := hide (HR1.out.of b1.size (b1.block (w.heap.size + 1) (by omega)))
  have c1 := HB0.out.trans (b1.mono (by omega))
  have D1 := hide hd1
  have hl1 := hd1.lt
  clear hd1 b1 HR0 HR1 HN
  go_wp2_with fail
  refine (l3Any_any D1.out).mono ?_
  rintro e w2 ⟨⟨r, g, c, hs, rfl, ho⟩, hd2, hg2⟩
  have R0b := hide (R0.out.of hg2.size (hg2.block w.heap.size R0.out.1 (by simp; omega)))
  have R1b := hide (R1.out.of hg2.size (hg2.block (w.heap.size + 1) R1.out.1 (by simp)))
  have hgl := ho.lt g rfl
  have z2 := hg2.size
  have c2 : Below w.heap.size w w2 := c1.trans ⟨hg2.os, hg2.tape, hg2.output, hg2.size, fun k hk => hg2.block k (by omega) (by simp; omega)⟩
  have O2 := hide ho
  have HS := hide hs
  have D2 := hide (hd2.alloc (Obj.cells #[Value.string r.m, Value.string r.p, Value.slice (some ⟨g, 0, none⟩) r.hs.length c, Value.string r.b] 26))
  have bal : Below w2.heap.size w2 (w2.alloc (Obj.cells #[Value.string r.m, Value.string r.p, Value.slice (some ⟨g, 0, none⟩) r.hs.length c, Value.string r.b] 26)) := (Below.refl _ _).alloc (Nat.le_refl _) _
  have R0c := hide (R0b.out.of bal.size (bal.block _ R0b.out.1))
  have R1c := hide (R1b.out.of bal.size (bal.block _ R1b.out.1))
  have O2c := hide (O2.out.alloc (Obj.cells #[Value.string r.m, Value.string r.p, Value.slice (some ⟨g, 0, none⟩) r.hs.length c, Value.string r.b] 26))
  have C2c := hide (c2.trans (bal.mono c2.size))
  have BXc := hide (BoxR.made w2 (some ⟨g, 0, none⟩) c r 26)
  clear ho hd2 hg2 hs bal R0 R1 R0b R1b O2 D1
  go_wp2_with fail
  refine (onceX D2.out).mono ?_
  rintro e w3 ⟨⟨bb, rfl⟩, hd3, hg3⟩
  have z3 : w2.heap.size + 1 ≤ w3.heap.size := by have := hg3.size; simp at this; omega
  have R03 := hide (R0c.out.of hg3.size (hg3.block _ R0c.out.1 (by simp; omega)))
  have R13 := hide (R1c.out.of hg3.size (hg3.block _ R1c.out.1 (by simp)))
  have O3 := hide (ownsH_grown O2c.out hg3 hl1)
  have hbx : w3.heap[w2.heap.size]? = _ := hg3.block w2.heap.size (by simp) (by simp; omega)
  have BX3 : Hid (BoxR w3 w2.heap.size (some ⟨g, 0, none⟩) c r) := by
    obtain ⟨h0, h1, h2, h3, h4⟩ := BXc.out
    exact ⟨Nat.lt_of_lt_of_le h0 hg3.size, (World.cell?_of_block (a := ⟨w2.heap.size, 0, none⟩) hbx).trans h1, (World.cell?_of_block (a := ⟨w2.heap.size, 1, none⟩) hbx).trans h2, (World.cell?_of_block (a := ⟨w2.heap.size, 2, none⟩) hbx).trans h3, (World.cell?_of_block (a := ⟨w2.heap.size, 3, none⟩) hbx).trans h4⟩
  have c3 : Below w.heap.size w w3 := C2c.out.trans ⟨hg3.os, hg3.tape, hg3.output, hg3.size, fun k hk => hg3.block k (by have := C2c.out.size; omega) (by simp; omega)⟩
  have D3 := hide hd3
  clear hd3 hg3 hbx R0c R1c O2c BXc C2c D2
  obtain ⟨_, x0, x1, x2, x3⟩ := BX3.out
  cases bb
  · have d3d : DX w3.drew (w.heap.size + 1 + 1) a len cap zs := D3.out.other (Nat.le_refl _) (fun _ _ => rfl)
    have D3d := hide d3d
    clear d3d
    go_wp2_with fail
    go_region_law (
      go_simp
      go_at_call 20
      refine (l3Any_any D3d.out).mono ?_
      rintro e w4 ⟨⟨r', g', c', hs', rfl, ho'⟩, hd4, hg4⟩
      have hg4' : w3.grownBy w4 (some (w.heap.size + 1 + 1)) := ⟨hg4.os, hg4.tape, hg4.output, hg4.size, hg4.block⟩
      have z4 : w3.heap.size ≤ w4.heap.size := hg4'.size
      have hbx : w4.heap[w2.heap.size]? = w3.heap[w2.heap.size]? := hg4'.block w2.heap.size (by omega) (by simp; omega)
      have u0 := (World.cell?_of_block (a := ⟨w2.heap.size, 0, none⟩) hbx).trans x0
      have u1 := (World.cell?_of_block (a := ⟨w2.heap.size, 1, none⟩) hbx).trans x1
      have u2 := (World.cell?_of_block (a := ⟨w2.heap.size, 2, none⟩) hbx).trans x2
      have u3 := (World.cell?_of_block (a := ⟨w2.heap.size, 3, none⟩) hbx).trans x3
      have R04 := R03.out.of hg4'.size (hg4'.block _ R03.out.1 (by simp; omega))
      have R14 := R13.out.of hg4'.size (hg4'.block _ R13.out.1 (by simp))
      obtain ⟨_, ⟨t0, z0⟩, ⟨t1, z1⟩, ⟨t2, z2⟩, ⟨t3, z3⟩, e0, e1, e2, e3⟩ := R04
      obtain ⟨_, ⟨s0, y0⟩, ⟨s1, y1⟩, ⟨s2, y2⟩, ⟨s3, y3⟩, f0, f1, f2, f3⟩ := R14
      have O4 := hide (ownsH_grown O3.out hg4' hl1)
      have O4' := hide ho'
      have hgl' : w3.heap.size ≤ g' := (ho'.lt g' rfl).1
      have c4 : Below w.heap.size w w4 := c3.trans ⟨hg4'.os, hg4'.tape, hg4'.output, hg4'.size, fun k hk => hg4'.block k (by omega) (by simp; omega)⟩
      have HS' := hide hs'
      clear ho' hd4 hg4 hg4' hbx hs')
    all_goals
      have n0 : ¬ w.heap.size = w.heap.size + 1 := by omega
      have n1 : w.heap.size ≠ g := by omega
      have n2 : w.heap.size + 1 ≠ g := by omega
      have n3 : w.heap.size ≠ g' := by omega
      have n4 : w.heap.size + 1 ≠ g' := by omega
      go_wp2
      refine bodyPost_ret (v := .tuple #[.agg #[.string r.m, .string r.p, .slice (some ⟨g, 0, none⟩) r.hs.length c, .string r.b], .agg #[.string r'.m, .string r'.p, .slice (some ⟨g', 0, none⟩) r'.hs.length c', .string r'.b]]) (by simp [results, Try.results8, go_sem, z0, z1, z2, z3, y0, y1, y2, y3]) rfl ⟨⟨_, _, rfl, ⟨r, g, c, HS.out, rfl, ?_⟩, ⟨r', g', c', HS'.out, rfl, ?_⟩⟩, ?_⟩
      · exact ownsH_hds (ownsH_set (ownsH_set (ownsH_set (ownsH_set (ownsH_set (ownsH_set (ownsH_set (ownsH_set O4.out n1) n1) n1) n1) n2) n2) n2) n2) rfl
      · exact ownsH_hds (ownsH_set (ownsH_set (ownsH_set (ownsH_set (ownsH_set (ownsH_set (ownsH_set (ownsH_set O4'.out n3) n3) n3) n3) n4) n4) n4) n4) rfl
      · exact (c4.trans (below_sets (Nat.le_refl _) _ _ _ _)).trans (below_sets (Nat.le_succ _) _ _ _ _)
  · have hl10 := HS.out.1.1
    go_wp2_with (at_builtin; refine wp_append_heads rfl _ _ rfl (w3.heap.size + 1) (w3.heap.size + 1) g r.hs.length c r.hs rfl ?o1 rfl rfl ?o2 ?o3 ?o4 ?_)
    case o3 => omega
    case o4 => simp
    case o1 =>
      have ho := World.ownsRow_made (w3.alloc (Obj.cells #[Value.string r.m, Value.string r.p, Value.slice (some ⟨g, 0, none⟩) r.hs.length c, Value.string r.b] 26)) (e := 51) (size := 2) #[] 0 (Nat.le_refl _) (by decide) rfl
      simpa [hdCells] using ho
    case o2 => exact ownsH_hds ((O3.out.alloc _).alloc _) rfl
    intro g5 c5 w5 o5 gr5
    have bal : Below w3.heap.size w3 ((w3.alloc (Obj.cells #[Value.string r.m, Value.string r.p, Value.slice (some ⟨g, 0, none⟩) r.hs.length c, Value.string r.b] 26)).alloc (Obj.cells #[] 51)) := ((Below.refl _ _).alloc (Nat.le_refl _) _).alloc (by simp) _
    have b5 : Below (w3.heap.size + 1) ((w3.alloc (Obj.cells #[Value.string r.m, Value.string r.p, Value.slice (some ⟨g, 0, none⟩) r.hs.length c, Value.string r.b] 26)).alloc (Obj.cells #[] 51)) w5 := ⟨gr5.os, gr5.tape, gr5.output, gr5.size, fun k hk => gr5.block k (by simp; omega) (by simp; omega)⟩
    have d5 : Below w3.heap.size w3 w5 := bal.trans (b5.mono (Nat.le_succ _))
    have bx5 := ((RBox.made w3 (.string r.m) (.string r.p) (.slice (some ⟨g, 0, none⟩) r.hs.length c) (.string r.b) 26).below ((Below.refl (w3.heap.size + 1) _).alloc (by simp) (Obj.cells #[] 51)) (Nat.lt_succ_self _)).below b5 (Nat.lt_succ_self _)
    have O5 := hide (ownsH_below O3.out d5)
    have O5' := hide o5
    have hgl' : w3.heap.size + 1 ≤ g5 := (o5.lt g5 rfl).1
    have c5b : Below w.heap.size w w5 := c3.trans (d5.mono c3.size)
    have R04 := R03.out.of d5.size (d5.block _ R03.out.1)
    have R14 := R13.out.of d5.size (d5.block _ R13.out.1)
    have ax := BX3.out.next d5
    clear o5 gr5 bal b5 x0 x1 x2 x3
    obtain ⟨_, u0, u1, u2, u3⟩ := ax
    obtain ⟨_, k0, k1, k2, k3, j0, j1, j2, j3⟩ := bx5
    obtain ⟨_, ⟨t0, z0⟩, ⟨t1, z1⟩, ⟨t2, z2⟩, ⟨t3, z3⟩, e0, e1, e2, e3⟩ := R04
    obtain ⟨_, ⟨s0, y0⟩, ⟨s1, y1⟩, ⟨s2, y2⟩, ⟨s3, y3⟩, f0, f1, f2, f3⟩ := R14
    have zz := c3.size
    have n0 : ¬ w.heap.size = w.heap.size + 1 := by omega
    have n1 : w.heap.size ≠ g := by omega
    have n2 : w.heap.size + 1 ≠ g := by omega
    have n3 : w.heap.size ≠ g5 := by omega
    have n4 : w.heap.size + 1 ≠ g5 := by omega
    have n5 : w3.heap.size ≠ g := by omega
    have n6 : w3.heap.size ≠ g5 := by omega
    have m1 : ¬ w3.heap.size = w2.heap.size := by omega
    have m2 : ¬ w3.heap.size = w.heap.size := by omega
    have m3 : ¬ w3.heap.size = w.heap.size + 1 := by omega
    have m4 : ¬ w.heap.size = w2.heap.size := by omega
    have m5 : ¬ w.heap.size + 1 = w2.heap.size := by omega
    have m6 : ¬ w.heap.size = w3.heap.size := by omega
    have m7 : ¬ w.heap.size + 1 = w3.heap.size := by omega
    go_wp2_with fail
    go_region_law (fail)
    all_goals
      go_wp2
      refine bodyPost_ret (v := .tuple #[.agg #[.string r.m, .string r.p, .slice (some ⟨g, 0, none⟩) r.hs.length c, .string r.b], .agg #[.string r.m, .string r.p, .slice (some ⟨g5, 0, none⟩) r.hs.length c5, .string r.b]]) (by simp [results, Try.results8, go_sem, z0, z1, z2, z3, y0, y1, y2, y3]) rfl ⟨⟨_, _, rfl, ⟨r, g, c, HS.out, rfl, ?_⟩, ⟨r, g5, c5, HS.out, rfl, ?_⟩⟩, ?_⟩
      · exact hdsD (ownsH_hds (ownsH_set (ownsH_set (ownsH_set (ownsH_set (ownsH_set (ownsH_set (ownsH_set (ownsH_set (ownsH_set O5.out n5) n1) n1) n1) n1) n2) n2) n2) n2) rfl)
      · exact hdsD (ownsH_hds (ownsH_set (ownsH_set (ownsH_set (ownsH_set (ownsH_set (ownsH_set (ownsH_set (ownsH_set (ownsH_set O5'.out n6) n3) n3) n3) n3) n4) n4) n4) n4) rfl)
      · exact below_drew (((c5b.setCell (p := ⟨w3.heap.size, 2, none⟩) zz _).trans (below_sets (Nat.le_refl _) _ _ _ _)).trans (below_sets (Nat.le_succ _) _ _ _ _))
end Go.Proofs.Ytklhplhjnpdigaa
