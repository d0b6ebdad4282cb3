/-
  The draws of requests, bent or not.
  Numbers out of a list that are drawn.
  The draw of a few numbers (sizes of pieces), in memory of their own.
  A drawn request, and the sizes of its pieces.
  A slice of integers as the row hands it in.
  Codes that are too long; what stays below what was there.
  The bytes of a draw as the row hands them in.
-/
import Derived.Test.YtanebchmeaomgaaGreatDoorDrawAny
import Derived.Test.YtanebchmeaomgaaGreatDoorDrawBytes
import Derived.Test.YtanebchmeaomgaaGreatDoorMathSmall
import Derived.Test.YtanebchmeaomgaaGreatDoorDrawI
import Derived.Test.YtanebchmeaomgaaGreatDoorOwnBytes
import Derived.Test.YtanebchmeaomgaaGreatDoorMathCutB
import Derived.Test.YtanebchmeaomgaaGreatDoorRows
import Derived.OpenShut
import Derived.WalkKit
import Derived.WalkSpells
import Derived.WalkLawsBesides
namespace Go.Proofs.YtanebchmeaomgaaGreatDoor
open Go.RowKit M
set_option linter.unusedVariables false

/-- What a draw of a request returns. -/
def RetQ (w' : World) (v : Value) : Prop := ∃ (r : Rq) (g c : Nat), SmallR r ∧ v = .agg #[.string r.m, .string r.p, .slice (some ⟨g, 0, none⟩) r.hs.length c, .string r.b] ∧ Hds w' w'.heap.size (some ⟨g, 0, none⟩) r.hs
set_option maxRecDepth 100000 in
set_option maxHeartbeats 1000000 in
theorem drawPutReq_any {w : World} {B : Nat} {a : Option Addr} {len : Nat} {zs : List Int} (h : CodeIn w B a len zs) (hB : B ≤ w.heap.size) (cap : Nat) :
    Calls Tryz.prog 16 #[.slice a len cap] w fun e w' => (∃ v, e = .returned v ∧ RetQ w' v) ∧ Below w.heap.size w w' := by
  have H := hide h
  clear h
  go_enter Tryz.func16, Tryz.ntmps16
  have hb0 : Below w.heap.size w (w.alloc (Obj.cells #[Value.string { data := #[] }, Value.string { data := #[] }, Value.slice none 0 0, Value.string { data := #[] }] 39)) := (Below.refl _ _).alloc (Nat.le_refl _) _
  have hz0 : (w.alloc (Obj.cells #[Value.string { data := #[] }, Value.string { data := #[] }, Value.slice none 0 0, Value.string { data := #[] }] 39)).heap.size = w.heap.size + 1 := by simp
  have HN := hide (newDX (H.out.below (hb0.mono hB)) cap)
  have HR0 := hide (Ret4.made w 39)
  have HB0 := hide hb0
  have HZ0 := hide hz0
  clear hb0 hz0
  go_wp2_with fail
  refine HN.out.mono ?_
  rintro e w1 ⟨rfl, hd1, b1⟩
  have z1 := b1.size
  rw [HZ0.out] at hd1 b1 z1
  have r1 := HR0.out.of b1.size (b1.block w.heap.size (by omega))
  have c1 := HB0.out.trans (b1.mono (by omega))
  have D1 := hide hd1
  have R1 := hide r1
  clear hd1 b1 r1 HN
  go_wp2_with fail
  refine (l3Any_any D1.out).mono ?_
  rintro e w2 ⟨⟨r, g, c, hs, rfl, ho⟩, hd2, hg2⟩
  have r2 := R1.out.of hg2.size (hg2.block w.heap.size R1.out.1 (by simp))
  have hgl := ho.lt g rfl
  have hgw : g ≠ w.heap.size := by omega
  have c2 : Below w.heap.size w w2 := c1.trans ⟨hg2.os, hg2.tape, hg2.output, hg2.size, fun k hk => hg2.block k (by omega) (by simp; omega)⟩
  have O2 := hide ho
  have HS := hide hs
  clear ho hd2 hg2 hs
  obtain ⟨_, ⟨t0, z0⟩, ⟨t1, z1⟩, ⟨t2, z2⟩, ⟨t3, z3⟩, e0, e1, e2, e3⟩ := r2
  go_wp2
  refine bodyPost_ret (v := .agg #[.string r.m, .string r.p, .slice (some ⟨g, 0, none⟩) r.hs.length c, .string r.b]) (by simp [results, Tryz.results16, go_sem, z0, z1, z2, z3]) rfl ⟨⟨_, rfl, r, g, c, HS.out, rfl, ?_⟩, c2.trans (below_sets (Nat.le_refl _) _ _ _ _)⟩
  exact ownsH_hds (ownsH_set (ownsH_set (ownsH_set (ownsH_set O2.out (fun e => hgw e.symm)) (fun e => hgw e.symm)) (fun e => hgw e.symm)) (fun e => hgw e.symm)) rfl

end Go.Proofs.YtanebchmeaomgaaGreatDoor
namespace Go.Proofs.YtanebchmeaomgaaGreatDoor
open Go.RowKit M

theorem row_ints (w : World) (ss : List Int) (T : TypeId) (C : Array Value) (n : Nat) (hC : C = (ss.map (Value.int .i64)).toArray) (hn : ss.length = n) : ∀ j, j < n → (w.alloc (.cells C T)).cell? ⟨w.heap.size, j, none⟩ = some (.int .i64 (ss.getD j 0)) := by
  subst hC hn
  intro j hj
  rw [World.cell?_alloc_new]
  simp [List.getD_eq_getElem?_getD, List.getElem?_eq_getElem hj]

/-- l1Int at a list that was just built. -/
theorem intNew {w : World} {N : Nat} {a : Option Addr} {len cap : Nat} {zs : List Int} {c : St} (h : DC w N a len cap zs c) (ss : List Int) (C : Array Value) (T : TypeId) (n M : Nat) (hM : M = w.heap.size) (hC : C = (ss.map (Value.int .i64)).toArray) (hn : ss.length = n) (h0 : 0 < n) (h1 : n ≤ 256) :
    Calls Tryz.prog 48 #[.pointer (some ⟨N, 0, none⟩), .slice (some ⟨M, 0, none⟩) n n] (w.alloc (.cells C T)) fun e w' => e = .returned (.int .i64 (ss.getD (pick zs len c n) 0)) ∧ DC w' N a len cap zs (belowS len c n) ∧ w.grownBy w' (some N) := by
  subst hM
  have hA := h.alloc (.cells C T)
  refine (l1Int_any N w.heap.size a len cap n zs ss c _ hA.cur hA.code h.bN h.hlen h0 h1 (by have := h.lt; omega) (row_ints w ss T C n hC hn)).mono ?_
  rintro e w1 ⟨rfl, hc1, hg1⟩
  exact ⟨rfl, hA.grown hg1 hc1, grown_trans (grown_alloc (grown_refl _ _) _) hg1⟩
end Go.Proofs.YtanebchmeaomgaaGreatDoor
namespace Go.Proofs.YtanebchmeaomgaaGreatDoor
open Go.RowKit M
set_option linter.unusedVariables false

def intCells (l : List Int) : List Value := l.map (Value.int .i64)
/-- A row of numbers that the call owns. -/
def OwnI (w : World) (B : Nat) (v : Value) (l : List Int) : Prop := w.ownsRow B 3 1 v l.length (intCells l)
theorem info_int64 : (Tryz.prog.info? 3).map (fun i => (i.zero, i.size, i.bytes)) = some (some (.int .i64 0), 1, 8) := by kernel_rfl
theorem OwnI.ints {w : World} {B : Nat} {v : Value} {l : List Int} (h : OwnI w B v l) : ∃ a c, v = .slice a l.length c ∧ Ints w w.heap.size a l ∧ ∀ b o, a = some ⟨b, o, none⟩ → B ≤ b := by
  have h' := h
  rcases h.2 with ⟨hv, h0⟩ | ⟨g, cap, cur, hv, hr⟩
  · subst hv
    have hl : l.length = 0 := by simpa [intCells] using h0
    rw [hl]
    exact ⟨none, 0, rfl, fun h1 => absurd h1 (by omega), fun b o e => nomatch e⟩
  · subst hv
    refine ⟨_, _, rfl, fun _ => ⟨g, 0, rfl, (h'.lt g rfl).2, fun j hj => ?_⟩, fun b o e => by cases e; exact (h'.lt g rfl).1⟩
    have := h'.cells (g := g) rfl j (.int .i64 l[j]) (by simp [intCells, List.getElem?_eq_getElem hj])
    have e : (⟨g, 0, none⟩ : Addr).add j = ⟨g, 0 + j, none⟩ := by unfold Addr.add; split <;> simp_all
    rw [e] at this
    exact this
theorem OwnI.kept {w w' : World} {B N : Nat} {v : Value} {l : List Int} (h : OwnI w B v l) (hg : w.grownBy w' (some N)) (hN : N < B) : OwnI w' B v l := by
  have hlt := World.ownsRow.lt h
  refine World.ownsRow.kept h hg ?_
  cases hv : v.ownBlock with
  | none => exact .inl rfl
  | some k => exact .inr (by have := (hlt k hv).1; simp; omega)
theorem OwnI.alloc {w : World} {B : Nat} {v : Value} {l : List Int} (h : OwnI w B v l) (o : Obj) : OwnI (w.alloc o) B v l := World.ownsRow.alloc h o
/-- 'append' of one number onto a row that the call owns. -/
theorem wp_append_int {w : World} {ops : Array Oper} {rest : List Oper} {o : Oper} {a : Act} {Q : Exit → Act → World → Prop} (hgd : o.guard = none) (s x : Operand)
    (ho : o.op = .call { callee := .builtin .append, args := #[s, x], argTypes := #[41, 41] })
    (B : Nat) (v : Value) (l : List Int) (hs : a.eval s = v) (hown : OwnI w B v l)
    (ad : Addr) (c : Int) (hx : a.eval x = .slice (some ad) 1 1) (hcell : w.cell? ad = some (.int .i64 c)) (hlen : l.length + 1 ≤ 1048576) (hB : B ≤ w.heap.size)
    (h : ∀ v' w', OwnI w' B v' (l ++ [c]) → w.grownBy w' v.ownBlock → wpList Tryz.prog ops Q rest (a.put o.dst v') w') : wpList Tryz.prog ops Q (o :: rest) a w := by
  obtain ⟨i0, hi, hz0, hz1, hz2⟩ := info_parts info_int64
  refine wpList_append_own w hgd s x 41 ho B 3 i0 (.int .i64 0) 1 8 Tryz.underlying41 hi hz0 hz1 hz2 rfl (by decide) v l.length _ hs hown ad 1 1 [.int .i64 c] hx rfl ?_ ?_ ?_ ?_ hB ?_
  · intro j u hj
    match j, hj with
    | 0, hj =>
      simp at hj; subst hj
      have : ad.add 0 = ad := by unfold Addr.add; split <;> simp_all
      rw [this]; exact hcell
  · intro u hu; simp at hu; subst hu; rfl
  · unfold maxLen; omega
  · omega
  · intro v' w' ho' hg _
    refine h v' w' ?_ hg
    unfold OwnI intCells
    rw [List.map_append, List.length_append]
    exact ho'
theorem intNewX {w : World} {N : Nat} {a : Option Addr} {len cap : Nat} {zs : List Int} (h : DX w N a len cap zs) (ss : List Int) (C : Array Value) (T : TypeId) (n M : Nat) (hM : M = w.heap.size) (hC : C = (ss.map (Value.int .i64)).toArray) (hn : ss.length = n) (h0 : 0 < n) (h1 : n ≤ 256) :
    Calls Tryz.prog 48 #[.pointer (some ⟨N, 0, none⟩), .slice (some ⟨M, 0, none⟩) n n] (w.alloc (.cells C T)) fun e w' => (∃ x : Int, e = .returned (.int .i64 x)) ∧ DX w' N a len cap zs ∧ w.grownBy w' (some N) := by
  obtain ⟨c, h⟩ := h
  refine (intNew h ss C T n M hM hC hn h0 h1).mono ?_
  rintro e w1 ⟨rfl, hd, hg⟩
  exact ⟨⟨_, rfl⟩, ⟨_, hd⟩, hg⟩
def sizesI : List Int := [0, 1, 2, 3, 16, 100, -1]
/-- What a draw of sizes hands back. -/
def RetI (w' : World) (B : Nat) (v : Value) : Prop := ∃ (ns : List Int) (a : Option Addr) (c : Nat), ns.length ≤ 3 ∧ v = .slice a ns.length c ∧ Ints w' w'.heap.size a ns ∧ ∀ b o, a = some ⟨b, o, none⟩ → B ≤ b

set_option maxRecDepth 100000 in
set_option maxHeartbeats 2000000 in
theorem l4Sizes_any {w : World} {N : Nat} {a : Option Addr} {len cap : Nat} {zs : List Int} (h : DX w N a len cap zs) :
    Calls Tryz.prog 52 #[.pointer (some ⟨N, 0, none⟩)] w fun e w' => (∃ v, e = .returned v ∧ RetI w' w.heap.size v) ∧ DX w' N a len cap zs ∧ w.grownBy w' (some N) := by
  have hlt := h.lt
  have H := hide h
  clear h
  have O0 : Hid (OwnI (w.alloc (Obj.cells #[] 3)) w.heap.size (.slice (some ⟨w.heap.size, 0, none⟩) 0 0) []) := by
    exact ⟨rfl, .inr ⟨w.heap.size, 0, #[], rfl, Nat.le_refl _, heap_alloc_new w _, Nat.le_refl _, Nat.zero_le _, rfl, rfl⟩⟩
  go_enter Tryz.func52, Tryz.ntmps52
  go_wp2_with fail
  refine (l1BelowX (H.out.alloc (Obj.cells #[] 3)) 4 (by decide) (by decide)).mono ?_
  rintro e w1 ⟨⟨k, rfl, hk⟩, hd1, hg1⟩
  have o1 := O0.out.kept hg1 hlt
  have g1 := grown_trans (grown_alloc (grown_refl w (some N)) (Obj.cells #[] 3)) hg1
  have G1 := hide g1
  have D1 := hide hd1
  have O1 := hide o1
  clear H O0 hd1 hg1 o1 g1
  go_wp2_with fail
  go_loopw [3, 4] (fun o i wr => ∃ (l : List Int) (m : Nat), l.length + m ≤ 3 ∧ i = .int .i64 m ∧ OwnI wr w.heap.size o l ∧ DX wr N a len cap zs ∧ w.grownBy wr (some N)) (fun _ i _ => (intOf i).toNat)
  case atStart => exact ⟨[], k, by simp; omega, rfl, O1.out, D1.out, G1.out⟩
  case round =>
    clear O1 D1 G1
    obtain ⟨l, m, hlm, rfl, ho, hd, hg⟩ := hrel
    have HO := hide ho
    have HD := hide hd
    have HG := hide hg
    clear ho hd hg
    by_cases h0 : 0 < m
    · have h0' : (0 : Int) < m := by omega
      go_wp2_with fail
      refine (intNewX HD.out sizesI _ _ 7 _ rfl rfl rfl (by decide) (by decide)).mono ?_
      rintro e w2 ⟨⟨x, rfl⟩, hd2, hg2⟩
      have HO2 := hide (HO.out.kept hg2 hlt)
      have HG2 := hide (grown_trans HG.out hg2)
      have HD2 := hide hd2
      have hsz := HG2.out.size
      clear hd2 hg2 HO HD HG
      go_wp2_with (at_builtin; refine wp_append_int rfl _ _ rfl w.heap.size _ l rfl (HO2.out.alloc _) _ x rfl ?c0 ?c1 ?c2 ?_)
      case c0 => simp
      case c1 => omega
      case c2 => simp; omega
      intro v4 w4 o4 g4
      have hlt4 := World.ownsRow.lt (HO2.out.alloc (Obj.cells #[.int .i64 x] 3))
      have b4 : Below w.heap.size (w2.alloc (Obj.cells #[.int .i64 x] 3)) w4 := ⟨g4.os, g4.tape, g4.output, g4.size, fun k hk => g4.block k (by simp; omega) (fun e => by have := (hlt4 k e.symm).1; omega)⟩
      have HD4 := hide ((HD2.out.alloc _).other b4.size (fun k hk => b4.block k (by omega)))
      have HG4 := hide (grown_past (grown_alloc HG2.out _) b4)
      have HO4 := hide o4
      clear o4 g4 b4 hlt4 HO2 HD2 HG2
      go_wp2
      go_roundw
      case rel => exact ⟨l ++ [x], m - 1, by simp; omega, by first | go_num | (congr 1; omega), HO4.out, HD4.out, HG4.out⟩
      case measure => simp [intOf]; omega
    · have hk : m = 0 := by omega
      subst hk
      obtain ⟨a', c', rfl, hI, hA⟩ := HO.out.ints
      have HA := hide hA
      clear hA
      have HI := hide hI
      clear hI
      go_wp2
      go_ret
      exact ⟨⟨_, rfl, l, a', c', by omega, rfl, HI.out, HA.out⟩, HD.out, HG.out⟩
end Go.Proofs.YtanebchmeaomgaaGreatDoor
namespace Go.Proofs.YtanebchmeaomgaaGreatDoor
open Go.RowKit M
set_option linter.unusedVariables false

set_option maxRecDepth 100000 in
set_option maxHeartbeats 1000000 in
theorem drawPutChunked_any {w : World} {B : Nat} {a : Option Addr} {len : Nat} {zs : List Int} (h : CodeIn w B a len zs) (hB : B ≤ w.heap.size) (cap : Nat) :
    Calls Tryz.prog 17 #[.slice a len cap] w fun e w' => (∃ (v u : Value), e = .returned (.tuple #[v, u]) ∧ RetQ w' v ∧ RetI w' w.heap.size u) ∧ Below w.heap.size w w' := by
  have H := hide h
  clear h
  go_enter Tryz.func17, Tryz.ntmps17
  have hb0 : Below w.heap.size w (w.alloc (Obj.cells #[Value.string { data := #[] }, Value.string { data := #[] }, Value.slice none 0 0, Value.string { data := #[] }] 39)) := (Below.refl _ _).alloc (Nat.le_refl _) _
  have hz0 : (w.alloc (Obj.cells #[Value.string { data := #[] }, Value.string { data := #[] }, Value.slice none 0 0, Value.string { data := #[] }] 39)).heap.size = w.heap.size + 1 := by simp
  have HN := hide (newDX (H.out.below (hb0.mono hB)) cap)
  have HR0 := hide (Ret4.made w 39)
  have HB0 := hide hb0
  have HZ0 := hide hz0
  clear hb0 hz0
  go_wp2_with fail
  refine HN.out.mono ?_
  rintro e w1 ⟨rfl, hd1, b1⟩
  have z1 := b1.size
  rw [HZ0.out] at hd1 b1 z1
  have r1 := HR0.out.of b1.size (b1.block w.heap.size (by omega))
  have c1 := HB0.out.trans (b1.mono (by omega))
  have D1 := hide hd1
  have R1 := hide r1
  clear hd1 b1 r1 HN
  go_wp2_with fail
  refine (l3Any_any D1.out).mono ?_
  rintro e w2 ⟨⟨r, g, c, hs, rfl, ho⟩, hd2, hg2⟩
  have r2 := R1.out.of hg2.size (hg2.block w.heap.size R1.out.1 (by simp))
  have hgl := ho.lt g rfl
  have hgw : g ≠ w.heap.size := by omega
  have c2 : Below w.heap.size w w2 := c1.trans ⟨hg2.os, hg2.tape, hg2.output, hg2.size, fun k hk => hg2.block k (by omega) (by simp; omega)⟩
  have O2 := hide ho
  have HS := hide hs
  have D2 := hide hd2
  have R2 := hide r2
  have hlt1 := D1.out.lt
  have hz12 := hg2.size
  clear ho hd2 hg2 hs r2 D1 R1
  go_wp2_with fail
  refine (l4Sizes_any D2.out).mono ?_
  rintro e w3 ⟨⟨u, rfl, ns, au, cu, hns, rfl, hI, hA⟩, hd3, hg3⟩
  have HA := hide hA
  have r3 := R2.out.of hg3.size (hg3.block w.heap.size R2.out.1 (by simp))
  have c3 : Below w.heap.size w w3 := c2.trans ⟨hg3.os, hg3.tape, hg3.output, hg3.size, fun k hk => hg3.block k (by have := c2.size; omega) (by simp; omega)⟩
  have O3 := hide (ownsH_grown O2.out hg3 (by omega))
  have HI := hide hI
  clear hd3 hg3 O2 D2 R2 hI hA
  obtain ⟨_, ⟨t0, z0⟩, ⟨t1, z1⟩, ⟨t2, z2⟩, ⟨t3, z3⟩, e0, e1, e2, e3⟩ := r3
  go_wp2
  refine bodyPost_ret (v := .tuple #[.agg #[.string r.m, .string r.p, .slice (some ⟨g, 0, none⟩) r.hs.length c, .string r.b], .slice au ns.length cu]) (by simp [results, Tryz.results17, go_sem, z0, z1, z2, z3]) rfl ⟨⟨_, _, rfl, ⟨r, g, c, HS.out, rfl, ?_⟩, ⟨ns, au, cu, hns, rfl, ?_, fun b o e => by have := HA.out b o e; omega⟩⟩, c3.trans (below_sets (Nat.le_refl _) _ _ _ _)⟩
  · exact ownsH_hds (ownsH_set (ownsH_set (ownsH_set (ownsH_set O3.out (fun e => hgw e.symm)) (fun e => hgw e.symm)) (fun e => hgw e.symm)) (fun e => hgw e.symm)) rfl
  · intro h0
    obtain ⟨b, o, e, hb, hc⟩ := HI.out h0
    have hne := HA.out b o e
    refine ⟨b, o, e, by simpa using hb, fun j hj => ?_⟩
    rw [World.cell?_setCell_other _ _ _ _ (fun e => by have := congrArg Addr.block e; simp only at this; omega), World.cell?_setCell_other _ _ _ _ (fun e => by have := congrArg Addr.block e; simp only at this; omega), World.cell?_setCell_other _ _ _ _ (fun e => by have := congrArg Addr.block e; simp only at this; omega), World.cell?_setCell_other _ _ _ _ (fun e => by have := congrArg Addr.block e; simp only at this; omega)]
    exact hc j hj
end Go.Proofs.YtanebchmeaomgaaGreatDoor
namespace Go.Proofs.YtanebchmeaomgaaGreatDoor
open Go.RowKit

/-- What the walk is told of a slice of integers that came in: it is nil; or it leads to a row of 'cap' cells, the numbers 'zs' (the first 'len' are its elements), each fitting its kind. -/
def IsRow (k : IntKind) (w : World) (a : Option Addr) (len cap : Nat) (zs : List Int) : Prop :=
  (a = none ∧ len = 0 ∧ cap = 0 ∧ zs = []) ∨
  ∃ x, a = some x ∧ len ≤ cap ∧ cap ≤ maxLen ∧ zs.length = cap ∧ (∀ i, i < zs.length → w.cell? (x.add i) = some (.int k (zs.getD i 0))) ∧ ∀ n ∈ zs, (Lit.int k n).wf = true
end Go.Proofs.YtanebchmeaomgaaGreatDoor
namespace Go.Proofs.YtanebchmeaomgaaGreatDoor
open Go.RowKit
set_option linter.unusedVariables false

set_option maxHeartbeats 400000 in
theorem big_any (a : Option Addr) (len cap : Nat) (w : World) (_hl : len ≤ maxLen) :
    Calls Tryz.prog 6 #[.slice a len cap] w fun e w' => e = .returned (.bool (decide ((1048576 : Int) < len))) ∧ w' = w := by
  unfold maxLen at _hl
  go_enter Tryz.func6, Tryz.ntmps6
  go_wp2
  go_ret
  exact ⟨rfl, rfl⟩

theorem row_len {w : World} {a : Option Addr} {len cap : Nat} {zs : List Int} (h : IsRow .u8 w a len cap zs) : len ≤ maxLen := by
  rcases h with ⟨_, rfl, _, _⟩ | ⟨x, _, hl, hm, _⟩
  · exact Nat.zero_le _
  · omega
end Go.Proofs.YtanebchmeaomgaaGreatDoor
namespace Go.Proofs.YtanebchmeaomgaaGreatDoor
open Go.RowKit M

theorem code_of_row {w : World} {a : Option Addr} {len cap : Nat} {zs : List Int} (h : IsRow .u8 w a len cap zs) (hlen : len ≤ 1048576) : CodeIn w w.heap.size a len zs := by
  rcases h with ⟨rfl, rfl, rfl, rfl⟩ | ⟨x, rfl, hl, hm, hz, hcell, hwz⟩
  · exact ⟨⟨Nat.le_refl _, fun j hj => absurd hj (Nat.not_lt_zero _), fun h => absurd h (Nat.lt_irrefl _)⟩, fun h => absurd h (Nat.lt_irrefl _), hlen, Nat.le_refl _⟩
  · obtain ⟨b, off, spot⟩ := x
    by_cases h0 : 0 < len
    · have hc := hcell 0 (by omega)
      have hspot : spot = none := by simpa [Addr.add] using World.cell?_spot hc
      subst hspot
      have hb : b < w.heap.size := by
        have := World.block_lt_of_cell? w _ hc
        simpa [Addr.add] using this
      refine ⟨⟨by omega, fun j hj => ?_, fun _ => ⟨b, off, rfl, fun j hj => ?_⟩⟩, fun _ b' off' e => ?_, hlen, Nat.le_refl _⟩
      · have hj' : j < zs.length := by omega
        refine bounds_u8 (hwz _ ?_)
        rw [List.getD_eq_getElem?_getD, List.getElem?_eq_getElem hj']
        exact List.getElem_mem hj'
      · have h1 := hcell j (by omega)
        have e : (⟨b, off, none⟩ : Addr).add j = ⟨b, off + j, none⟩ := by unfold Addr.add; split <;> simp_all
        rwa [e] at h1
      · cases e; exact hb
    · exact ⟨⟨by omega, fun j hj => absurd hj (by omega), fun h => absurd h h0⟩, fun h => absurd h h0, hlen, Nat.le_refl _⟩
end Go.Proofs.YtanebchmeaomgaaGreatDoor
