/-
  The draws of requests, bent or not.
  Numbers out of a list that are drawn.
  The draw of a few numbers (sizes of pieces), in memory of their own.
  The draws of the law on chunks: a text and sizes; a request and sizes.
  The draw of bytes of pieces, bent or not, and of a place.
  A byte of a code.
  A byte of a code: which one.
  Bytes behind a row of bytes that the call made: the row's own slice holds what it held.
  Plain facts on numbers read of their digits: no program in sight.
  Plain facts on numbers read of their digits to the base 16: no program in sight.
  Plain facts on bodies in pieces: no program in sight.
  Small facts that what is parsed wants.
-/
import Derived.Test.YtcgmokjnjmefpaaGreatDoorStepByts
import Derived.Test.YtcgmokjnjmefpaaGreatDoorDrawBytes
import Derived.Test.YtcgmokjnjmefpaaGreatDoorHeads
import Derived.Test.YtcgmokjnjmefpaaGreatDoorPutHead
import Derived.Test.YtcgmokjnjmefpaaGreatDoorMathCutB
import Derived.Lib.Atoi
import Derived.Test.YtcgmokjnjmefpaaGreatDoorRows
import Derived.WalkKit
import Derived.WalkSpells
import Derived.WalkLawsBesides
import Derived.Lib.ConvBytes
namespace Go.Proofs.YtcgmokjnjmefpaaGreatDoor
open Go.RowKit M
set_option linter.unusedVariables false

/-- What a draw of a request returns. -/
def RetQ (w' : World) (v : Value) : Prop := ∃ (r : Rq) (g c : Nat), SmallR r ∧ v = .agg #[.string r.m, .string r.p, .slice (some ⟨g, 0, none⟩) r.hs.length c, .string r.b] ∧ Hds w' w'.heap.size (some ⟨g, 0, none⟩) r.hs
set_option maxRecDepth 100000 in
set_option maxHeartbeats 1000000 in
theorem drawPutReq_any {w : World} {B : Nat} {a : Option Addr} {len : Nat} {zs : List Int} (h : CodeIn w B a len zs) (hB : B ≤ w.heap.size) (cap : Nat) :
    Calls Tryz.prog 28 #[.slice a len cap] w fun e w' => (∃ v, e = .returned v ∧ RetQ w' v) ∧ Below w.heap.size w w' := by
  have H := hide h
  clear h
  go_enter Tryz.func28, Tryz.ntmps28
  have hb0 : Below w.heap.size w (w.alloc (Obj.cells #[Value.string { data := #[] }, Value.string { data := #[] }, Value.slice none 0 0, Value.string { data := #[] }] 35)) := (Below.refl _ _).alloc (Nat.le_refl _) _
  have hz0 : (w.alloc (Obj.cells #[Value.string { data := #[] }, Value.string { data := #[] }, Value.slice none 0 0, Value.string { data := #[] }] 35)).heap.size = w.heap.size + 1 := by simp
  have HN := hide (newDX (H.out.below (hb0.mono hB)) cap)
  have HR0 := hide (Ret4.made w 35)
  have HB0 := hide hb0
  have HZ0 := hide hz0
  clear hb0 hz0
  go_wp2_with fail
  refine HN.out.mono ?_
  rintro e w1 ⟨rfl, hd1, b1⟩
  have z1 := b1.size
  rw [HZ0.out] at hd1 b1 z1
  have r1 := HR0.out.of b1.size (b1.block w.heap.size (by omega))
  have c1 := HB0.out.trans (b1.mono (by omega))
  have D1 := hide hd1
  have R1 := hide r1
  clear hd1 b1 r1 HN
  go_wp2_with fail
  refine (l3Any_any D1.out).mono ?_
  rintro e w2 ⟨⟨r, g, c, hs, rfl, ho⟩, hd2, hg2⟩
  have r2 := R1.out.of hg2.size (hg2.block w.heap.size R1.out.1 (by simp))
  have hgl := ho.lt g rfl
  have hgw : g ≠ w.heap.size := by omega
  have c2 : Below w.heap.size w w2 := c1.trans ⟨hg2.os, hg2.tape, hg2.output, hg2.size, fun k hk => hg2.block k (by omega) (by simp; omega)⟩
  have O2 := hide ho
  have HS := hide hs
  clear ho hd2 hg2 hs
  obtain ⟨_, ⟨t0, z0⟩, ⟨t1, z1⟩, ⟨t2, z2⟩, ⟨t3, z3⟩, e0, e1, e2, e3⟩ := r2
  go_wp2
  refine bodyPost_ret (v := .agg #[.string r.m, .string r.p, .slice (some ⟨g, 0, none⟩) r.hs.length c, .string r.b]) (by simp [results, Tryz.results28, go_sem, z0, z1, z2, z3]) rfl ⟨⟨_, rfl, r, g, c, HS.out, rfl, ?_⟩, c2.trans (below_sets (Nat.le_refl _) _ _ _ _)⟩
  exact ownsH_hds (ownsH_set (ownsH_set (ownsH_set (ownsH_set O2.out (fun e => hgw e.symm)) (fun e => hgw e.symm)) (fun e => hgw e.symm)) (fun e => hgw e.symm)) rfl

end Go.Proofs.YtcgmokjnjmefpaaGreatDoor
namespace Go.Proofs.YtcgmokjnjmefpaaGreatDoor
open Go.RowKit M

theorem row_ints (w : World) (ss : List Int) (T : TypeId) (C : Array Value) (n : Nat) (hC : C = (ss.map (Value.int .i64)).toArray) (hn : ss.length = n) : ∀ j, j < n → (w.alloc (.cells C T)).cell? ⟨w.heap.size, j, none⟩ = some (.int .i64 (ss.getD j 0)) := by
  subst hC hn
  intro j hj
  rw [World.cell?_alloc_new]
  simp [List.getD_eq_getElem?_getD, List.getElem?_eq_getElem hj]

/-- l1Int at a list that was just built. -/
theorem intNew {w : World} {N : Nat} {a : Option Addr} {len cap : Nat} {zs : List Int} {c : St} (h : DC w N a len cap zs c) (ss : List Int) (C : Array Value) (T : TypeId) (n M : Nat) (hM : M = w.heap.size) (hC : C = (ss.map (Value.int .i64)).toArray) (hn : ss.length = n) (h0 : 0 < n) (h1 : n ≤ 256) :
    Calls Tryz.prog 50 #[.pointer (some ⟨N, 0, none⟩), .slice (some ⟨M, 0, none⟩) n n] (w.alloc (.cells C T)) fun e w' => e = .returned (.int .i64 (ss.getD (pick zs len c n) 0)) ∧ DC w' N a len cap zs (belowS len c n) ∧ w.grownBy w' (some N) := by
  subst hM
  have hA := h.alloc (.cells C T)
  refine (l1Int_any N w.heap.size a len cap n zs ss c _ hA.cur hA.code h.bN h.hlen h0 h1 (by have := h.lt; omega) (row_ints w ss T C n hC hn)).mono ?_
  rintro e w1 ⟨rfl, hc1, hg1⟩
  exact ⟨rfl, hA.grown hg1 hc1, grown_trans (grown_alloc (grown_refl _ _) _) hg1⟩
end Go.Proofs.YtcgmokjnjmefpaaGreatDoor
namespace Go.Proofs.YtcgmokjnjmefpaaGreatDoor
open Go.RowKit M
set_option linter.unusedVariables false

def intCells (l : List Int) : List Value := l.map (Value.int .i64)
/-- A row of numbers that the call owns. -/
def OwnI (w : World) (B : Nat) (v : Value) (l : List Int) : Prop := w.ownsRow B 3 1 v l.length (intCells l)
theorem info_int64 : (Tryz.prog.info? 3).map (fun i => (i.zero, i.size, i.bytes)) = some (some (.int .i64 0), 1, 8) := by kernel_rfl
theorem OwnI.ints {w : World} {B : Nat} {v : Value} {l : List Int} (h : OwnI w B v l) : ∃ a c, v = .slice a l.length c ∧ Ints w w.heap.size a l ∧ ∀ b o, a = some ⟨b, o, none⟩ → B ≤ b := by
  have h' := h
  rcases h.2 with ⟨hv, h0⟩ | ⟨g, cap, cur, hv, hr⟩
  · subst hv
    have hl : l.length = 0 := by simpa [intCells] using h0
    rw [hl]
    exact ⟨none, 0, rfl, fun h1 => absurd h1 (by omega), fun b o e => nomatch e⟩
  · subst hv
    refine ⟨_, _, rfl, fun _ => ⟨g, 0, rfl, (h'.lt g rfl).2, fun j hj => ?_⟩, fun b o e => by cases e; exact (h'.lt g rfl).1⟩
    have := h'.cells (g := g) rfl j (.int .i64 l[j]) (by simp [intCells, List.getElem?_eq_getElem hj])
    have e : (⟨g, 0, none⟩ : Addr).add j = ⟨g, 0 + j, none⟩ := by unfold Addr.add; split <;> simp_all
    rw [e] at this
    exact this
theorem OwnI.kept {w w' : World} {B N : Nat} {v : Value} {l : List Int} (h : OwnI w B v l) (hg : w.grownBy w' (some N)) (hN : N < B) : OwnI w' B v l := by
  have hlt := World.ownsRow.lt h
  refine World.ownsRow.kept h hg ?_
  cases hv : v.ownBlock with
  | none => exact .inl rfl
  | some k => exact .inr (by have := (hlt k hv).1; simp; omega)
theorem OwnI.alloc {w : World} {B : Nat} {v : Value} {l : List Int} (h : OwnI w B v l) (o : Obj) : OwnI (w.alloc o) B v l := World.ownsRow.alloc h o
/-- 'append' of one number onto a row that the call owns. -/
theorem wp_append_int {w : World} {ops : Array Oper} {rest : List Oper} {o : Oper} {a : Act} {Q : Exit → Act → World → Prop} (hgd : o.guard = none) (s x : Operand)
    (ho : o.op = .call { callee := .builtin .append, args := #[s, x], argTypes := #[24, 24] })
    (B : Nat) (v : Value) (l : List Int) (hs : a.eval s = v) (hown : OwnI w B v l)
    (ad : Addr) (c : Int) (hx : a.eval x = .slice (some ad) 1 1) (hcell : w.cell? ad = some (.int .i64 c)) (hlen : l.length + 1 ≤ 1048576) (hB : B ≤ w.heap.size)
    (h : ∀ v' w', OwnI w' B v' (l ++ [c]) → w.grownBy w' v.ownBlock → wpList Tryz.prog ops Q rest (a.put o.dst v') w') : wpList Tryz.prog ops Q (o :: rest) a w := by
  obtain ⟨i0, hi, hz0, hz1, hz2⟩ := info_parts info_int64
  refine wpList_append_own w hgd s x 24 ho B 3 i0 (.int .i64 0) 1 8 Tryz.underlying24 hi hz0 hz1 hz2 rfl (by decide) v l.length _ hs hown ad 1 1 [.int .i64 c] hx rfl ?_ ?_ ?_ ?_ hB ?_
  · intro j u hj
    match j, hj with
    | 0, hj =>
      simp at hj; subst hj
      have : ad.add 0 = ad := by unfold Addr.add; split <;> simp_all
      rw [this]; exact hcell
  · intro u hu; simp at hu; subst hu; rfl
  · unfold maxLen; omega
  · omega
  · intro v' w' ho' hg _
    refine h v' w' ?_ hg
    unfold OwnI intCells
    rw [List.map_append, List.length_append]
    exact ho'
theorem intNewX {w : World} {N : Nat} {a : Option Addr} {len cap : Nat} {zs : List Int} (h : DX w N a len cap zs) (ss : List Int) (C : Array Value) (T : TypeId) (n M : Nat) (hM : M = w.heap.size) (hC : C = (ss.map (Value.int .i64)).toArray) (hn : ss.length = n) (h0 : 0 < n) (h1 : n ≤ 256) :
    Calls Tryz.prog 50 #[.pointer (some ⟨N, 0, none⟩), .slice (some ⟨M, 0, none⟩) n n] (w.alloc (.cells C T)) fun e w' => (∃ x : Int, e = .returned (.int .i64 x)) ∧ DX w' N a len cap zs ∧ w.grownBy w' (some N) := by
  obtain ⟨c, h⟩ := h
  refine (intNew h ss C T n M hM hC hn h0 h1).mono ?_
  rintro e w1 ⟨rfl, hd, hg⟩
  exact ⟨⟨_, rfl⟩, ⟨_, hd⟩, hg⟩
def sizesI : List Int := [0, 1, 2, 3, 16, 100, -1]
/-- What a draw of sizes hands back. -/
def RetI (w' : World) (B : Nat) (v : Value) : Prop := ∃ (ns : List Int) (a : Option Addr) (c : Nat), ns.length ≤ 3 ∧ v = .slice a ns.length c ∧ Ints w' w'.heap.size a ns ∧ ∀ b o, a = some ⟨b, o, none⟩ → B ≤ b

set_option maxRecDepth 100000 in
set_option maxHeartbeats 2000000 in
theorem l4Sizes_any {w : World} {N : Nat} {a : Option Addr} {len cap : Nat} {zs : List Int} (h : DX w N a len cap zs) :
    Calls Tryz.prog 44 #[.pointer (some ⟨N, 0, none⟩)] w fun e w' => (∃ v, e = .returned v ∧ RetI w' w.heap.size v) ∧ DX w' N a len cap zs ∧ w.grownBy w' (some N) := by
  have hlt := h.lt
  have H := hide h
  clear h
  have O0 : Hid (OwnI (w.alloc (Obj.cells #[] 3)) w.heap.size (.slice (some ⟨w.heap.size, 0, none⟩) 0 0) []) := by
    exact ⟨rfl, .inr ⟨w.heap.size, 0, #[], rfl, Nat.le_refl _, heap_alloc_new w _, Nat.le_refl _, Nat.zero_le _, rfl, rfl⟩⟩
  go_enter Tryz.func44, Tryz.ntmps44
  go_wp2_with fail
  refine (l1BelowX (H.out.alloc (Obj.cells #[] 3)) 4 (by decide) (by decide)).mono ?_
  rintro e w1 ⟨⟨k, rfl, hk⟩, hd1, hg1⟩
  have o1 := O0.out.kept hg1 hlt
  have g1 := grown_trans (grown_alloc (grown_refl w (some N)) (Obj.cells #[] 3)) hg1
  have G1 := hide g1
  have D1 := hide hd1
  have O1 := hide o1
  clear H O0 hd1 hg1 o1 g1
  go_wp2_with fail
  go_loopw [3, 4] (fun o i wr => ∃ (l : List Int) (m : Nat), l.length + m ≤ 3 ∧ i = .int .i64 m ∧ OwnI wr w.heap.size o l ∧ DX wr N a len cap zs ∧ w.grownBy wr (some N)) (fun _ i _ => (intOf i).toNat)
  case atStart => exact ⟨[], k, by simp; omega, rfl, O1.out, D1.out, G1.out⟩
  case round =>
    clear O1 D1 G1
    obtain ⟨l, m, hlm, rfl, ho, hd, hg⟩ := hrel
    have HO := hide ho
    have HD := hide hd
    have HG := hide hg
    clear ho hd hg
    by_cases h0 : 0 < m
    · have h0' : (0 : Int) < m := by omega
      go_wp2_with fail
      refine (intNewX HD.out sizesI _ _ 7 _ rfl rfl rfl (by decide) (by decide)).mono ?_
      rintro e w2 ⟨⟨x, rfl⟩, hd2, hg2⟩
      have HO2 := hide (HO.out.kept hg2 hlt)
      have HG2 := hide (grown_trans HG.out hg2)
      have HD2 := hide hd2
      have hsz := HG2.out.size
      clear hd2 hg2 HO HD HG
      go_wp2_with (at_builtin; refine wp_append_int rfl _ _ rfl w.heap.size _ l rfl (HO2.out.alloc _) _ x rfl ?c0 ?c1 ?c2 ?_)
      case c0 => simp
      case c1 => omega
      case c2 => simp; omega
      intro v4 w4 o4 g4
      have hlt4 := World.ownsRow.lt (HO2.out.alloc (Obj.cells #[.int .i64 x] 3))
      have b4 : Below w.heap.size (w2.alloc (Obj.cells #[.int .i64 x] 3)) w4 := ⟨g4.os, g4.tape, g4.output, g4.size, fun k hk => g4.block k (by simp; omega) (fun e => by have := (hlt4 k e.symm).1; omega)⟩
      have HD4 := hide ((HD2.out.alloc _).other b4.size (fun k hk => b4.block k (by omega)))
      have HG4 := hide (grown_past (grown_alloc HG2.out _) b4)
      have HO4 := hide o4
      clear o4 g4 b4 hlt4 HO2 HD2 HG2
      go_wp2
      go_roundw
      case rel => exact ⟨l ++ [x], m - 1, by simp; omega, by first | go_num | (congr 1; omega), HO4.out, HD4.out, HG4.out⟩
      case measure => simp [intOf]; omega
    · have hk : m = 0 := by omega
      subst hk
      obtain ⟨a', c', rfl, hI, hA⟩ := HO.out.ints
      have HA := hide hA
      clear hA
      have HI := hide hI
      clear hI
      go_wp2
      go_ret
      exact ⟨⟨_, rfl, l, a', c', by omega, rfl, HI.out, HA.out⟩, HD.out, HG.out⟩
end Go.Proofs.YtcgmokjnjmefpaaGreatDoor
namespace Go.Proofs.YtcgmokjnjmefpaaGreatDoor
open Go.RowKit M
set_option linter.unusedVariables false

def chunkD : List ByteArray := [⟨#[]⟩, ⟨#[115, 105, 120, 116, 101, 101, 110, 45, 98, 121, 116, 101, 115, 45, 115, 111]⟩, ⟨#[48]⟩]

set_option maxRecDepth 100000 in
set_option maxHeartbeats 1000000 in
theorem drawPutChunks_any {w : World} {B : Nat} {a : Option Addr} {len : Nat} {zs : List Int} (h : CodeIn w B a len zs) (hB : B ≤ w.heap.size) (cap : Nat) :
    Calls Tryz.prog 8 #[.slice a len cap] w fun e w' => (∃ (s : ByteArray) (v : Value), e = .returned (.tuple #[.string s, v]) ∧ s.size ≤ 120 ∧ RetI w' w.heap.size v) ∧ Below w.heap.size w w' := by
  have HN := hide (newDX (h.below (Below.refl _ _)) cap)
  clear h
  go_enter Tryz.func8, Tryz.ntmps8
  go_wp2_with fail
  refine HN.out.mono ?_
  rintro e w1 ⟨rfl, hd1, b1⟩
  have D1 := hide hd1
  have B1 := hide b1
  clear HN hd1 b1
  go_wp2_with fail
  refine (l3Body_any D1.out).mono ?_
  rintro e w2 ⟨⟨x, rfl, hx⟩, hd2, hg2⟩
  have D2 := hide hd2
  have B2 := hide (dc_below B1.out hg2)
  clear hd2 hg2 D1 B1
  go_wp2_with fail
  refine (strNewM D2.out chunkD _ _ 3 _ 20 rfl rfl rfl (by decide) (by decide) (by decide)).mono ?_
  rintro e w3 ⟨⟨y, rfl, hy⟩, hd3, hg3⟩
  have D3 := hide hd3
  have B3 := hide (dc_below B2.out hg3)
  clear hd3 hg3 D2 B2
  go_wp2_with fail
  refine (l4Sizes_any D3.out).mono ?_
  rintro e w4 ⟨⟨v, rfl, hv⟩, hd4, hg4⟩
  have B4 := hide (dc_below B3.out hg4)
  obtain ⟨ns, av, cv, hn, rfl, hI, hA⟩ := hv
  have HV := hide (show RetI w4 w.heap.size (.slice av ns.length cv) from ⟨ns, av, cv, hn, rfl, hI, fun b o e => Nat.le_trans B3.out.size (hA b o e)⟩)
  clear hd4 hg4 D3 B3 hI hA
  go_wp2
  refine bodyPost_ret (v := .tuple #[.string (x ++ y), .slice av ns.length cv]) (by simp [results, Tryz.results8, go_sem]) rfl ?_
  exact ⟨⟨x ++ y, _, rfl, by rw [ByteArray.size_append]; omega, HV.out⟩, B4.out⟩
set_option maxRecDepth 100000 in
set_option maxHeartbeats 1000000 in
theorem drawPutChunked_any {w : World} {B : Nat} {a : Option Addr} {len : Nat} {zs : List Int} (h : CodeIn w B a len zs) (hB : B ≤ w.heap.size) (cap : Nat) :
    Calls Tryz.prog 14 #[.slice a len cap] w fun e w' => (∃ (v u : Value), e = .returned (.tuple #[v, u]) ∧ RetQ w' v ∧ RetI w' w.heap.size u) ∧ Below w.heap.size w w' := by
  have H := hide h
  clear h
  go_enter Tryz.func14, Tryz.ntmps14
  have hb0 : Below w.heap.size w (w.alloc (Obj.cells #[Value.string { data := #[] }, Value.string { data := #[] }, Value.slice none 0 0, Value.string { data := #[] }] 35)) := (Below.refl _ _).alloc (Nat.le_refl _) _
  have hz0 : (w.alloc (Obj.cells #[Value.string { data := #[] }, Value.string { data := #[] }, Value.slice none 0 0, Value.string { data := #[] }] 35)).heap.size = w.heap.size + 1 := by simp
  have HN := hide (newDX (H.out.below (hb0.mono hB)) cap)
  have HR0 := hide (Ret4.made w 35)
  have HB0 := hide hb0
  have HZ0 := hide hz0
  clear hb0 hz0
  go_wp2_with fail
  refine HN.out.mono ?_
  rintro e w1 ⟨rfl, hd1, b1⟩
  have z1 := b1.size
  rw [HZ0.out] at hd1 b1 z1
  have r1 := HR0.out.of b1.size (b1.block w.heap.size (by omega))
  have c1 := HB0.out.trans (b1.mono (by omega))
  have D1 := hide hd1
  have R1 := hide r1
  clear hd1 b1 r1 HN
  go_wp2_with fail
  refine (l3Any_any D1.out).mono ?_
  rintro e w2 ⟨⟨r, g, c, hs, rfl, ho⟩, hd2, hg2⟩
  have r2 := R1.out.of hg2.size (hg2.block w.heap.size R1.out.1 (by simp))
  have hgl := ho.lt g rfl
  have hgw : g ≠ w.heap.size := by omega
  have c2 : Below w.heap.size w w2 := c1.trans ⟨hg2.os, hg2.tape, hg2.output, hg2.size, fun k hk => hg2.block k (by omega) (by simp; omega)⟩
  have O2 := hide ho
  have HS := hide hs
  have D2 := hide hd2
  have R2 := hide r2
  have hlt1 := D1.out.lt
  have hz12 := hg2.size
  clear ho hd2 hg2 hs r2 D1 R1
  go_wp2_with fail
  refine (l4Sizes_any D2.out).mono ?_
  rintro e w3 ⟨⟨u, rfl, ns, au, cu, hns, rfl, hI, hA⟩, hd3, hg3⟩
  have HA := hide hA
  have r3 := R2.out.of hg3.size (hg3.block w.heap.size R2.out.1 (by simp))
  have c3 : Below w.heap.size w w3 := c2.trans ⟨hg3.os, hg3.tape, hg3.output, hg3.size, fun k hk => hg3.block k (by have := c2.size; omega) (by simp; omega)⟩
  have O3 := hide (ownsH_grown O2.out hg3 (by omega))
  have HI := hide hI
  clear hd3 hg3 O2 D2 R2 hI hA
  obtain ⟨_, ⟨t0, z0⟩, ⟨t1, z1⟩, ⟨t2, z2⟩, ⟨t3, z3⟩, e0, e1, e2, e3⟩ := r3
  go_wp2
  refine bodyPost_ret (v := .tuple #[.agg #[.string r.m, .string r.p, .slice (some ⟨g, 0, none⟩) r.hs.length c, .string r.b], .slice au ns.length cu]) (by simp [results, Tryz.results14, go_sem, z0, z1, z2, z3]) rfl ⟨⟨_, _, rfl, ⟨r, g, c, HS.out, rfl, ?_⟩, ⟨ns, au, cu, hns, rfl, ?_, fun b o e => by have := HA.out b o e; omega⟩⟩, c3.trans (below_sets (Nat.le_refl _) _ _ _ _)⟩
  · exact ownsH_hds (ownsH_set (ownsH_set (ownsH_set (ownsH_set O3.out (fun e => hgw e.symm)) (fun e => hgw e.symm)) (fun e => hgw e.symm)) (fun e => hgw e.symm)) rfl
  · intro h0
    obtain ⟨b, o, e, hb, hc⟩ := HI.out h0
    have hne := HA.out b o e
    refine ⟨b, o, e, by simpa using hb, fun j hj => ?_⟩
    rw [World.cell?_setCell_other _ _ _ _ (fun e => by have := congrArg Addr.block e; simp only at this; omega), World.cell?_setCell_other _ _ _ _ (fun e => by have := congrArg Addr.block e; simp only at this; omega), World.cell?_setCell_other _ _ _ _ (fun e => by have := congrArg Addr.block e; simp only at this; omega), World.cell?_setCell_other _ _ _ _ (fun e => by have := congrArg Addr.block e; simp only at this; omega)]
    exact hc j hj
end Go.Proofs.YtcgmokjnjmefpaaGreatDoor
namespace Go.Proofs.YtcgmokjnjmefpaaGreatDoor
open Go.RowKit M
set_option linter.unusedVariables false

set_option maxHeartbeats 1000000 in
theorem specPutChunksO_any (b : ByteArray) (a : Option Addr) (ns : List Int) (cap B : Nat) (w : World) (hI : Ints w B a ns) (hB : B ≤ w.heap.size) (hb : b.size ≤ 1048576) (hnl : ns.length ≤ 1073741824) :
    Calls Tryz.prog 48 #[.string b, .slice a ns.length cap] w fun e w' => (∃ (g c : Nat), e = .returned (.slice (some ⟨g, 0, none⟩) (putCs ns b.data.toList).length c) ∧ OwnY w' w.heap.size (.slice (some ⟨g, 0, none⟩) (putCs ns b.data.toList).length c) (putCs ns b.data.toList)) ∧ Below w.heap.size w w' := by
  have HP := hide (l4Text_any b a ns cap B w hI hB hb hnl)
  obtain ⟨t, ht⟩ : ∃ t, bytesOf (putCs ns b.data.toList) = t := ⟨_, rfl⟩
  have hl : (putCs ns b.data.toList).length = t.size := by rw [← ht]; simp [bytesOf, ByteArray.size]
  have htl : t.data.toList = putCs ns b.data.toList := by rw [← ht]; rfl
  have hts : t.size ≤ 4398046511104 := by
    have := putCs_len21 ns b
    omega
  rw [ht] at HP
  rw [hl]
  have HTL := hide htl
  clear ht hl htl
  go_enter Tryz.func48, Tryz.ntmps48
  go_wp2_with fail
  refine HP.out.mono ?_
  rintro e w1 ⟨rfl, b1⟩
  have hcv := Lib.run_convert_string_bytes (P := Tryz.prog) w1 9 22 5 t Tryz.underlying9 Tryz.underlying22 Tryz.underlying5
  have HM := hide ((OwnY.made w1 t hts).base b1.size)
  rw [HTL.out] at HM
  have HB := hide (b1.trans ((below_bytesP w1 t).mono b1.size))
  clear b1
  go_wp2
  go_ret
  exact ⟨⟨_, _, rfl, HM.out⟩, HB.out⟩

def chunkB : List ByteArray := [⟨#[]⟩, ⟨#[97, 98, 99]⟩]
def chunkI : List Int := [0, 13, 10, 48, 102, 32]
def chunkX : List ByteArray := [⟨#[99, 56, 13, 10]⟩, ⟨#[99, 57, 13, 10]⟩, ⟨#[48, 48, 48, 48, 49, 13, 10, 97]⟩, ⟨#[48, 48, 48, 49, 13, 10, 97, 13, 10, 48, 13, 10, 13, 10]⟩, ⟨#[49, 13, 97]⟩, ⟨#[120]⟩, ⟨#[49, 13, 10, 97, 98, 13, 10]⟩, ⟨#[]⟩, ⟨#[13, 10]⟩, ⟨#[48, 13, 10, 13]⟩]

set_option maxRecDepth 100000 in
set_option maxHeartbeats 4000000 in
theorem drawGetChunks_any {w : World} {B : Nat} {a : Option Addr} {len : Nat} {zs : List Int} (h : CodeIn w B a len zs) (hB : B ≤ w.heap.size) (cap : Nat) :
    Calls Tryz.prog 12 #[.slice a len cap] w fun e w' => (∃ (v : Value) (i : Int), e = .returned (.tuple #[v, .int .i64 i]) ∧ RetY w' w.heap.size 4000 v) ∧ Below w.heap.size w w' := by
  have HN := hide (newDX (h.below (Below.refl _ _)) cap)
  clear h
  go_enter Tryz.func12, Tryz.ntmps12
  go_wp2_with fail
  refine HN.out.mono ?_
  rintro e w1 ⟨rfl, hd1, b1⟩
  have D1 := hide hd1
  have B1 := hide b1
  clear HN hd1 b1
  go_wp2_with fail
  refine (l3Body_any D1.out).mono ?_
  rintro e w2 ⟨⟨x, rfl, hx⟩, hd2, hg2⟩
  have D2 := hide hd2
  have B2 := hide (dc_below B1.out hg2)
  clear hd2 hg2 D1 B1
  go_wp2_with fail
  refine (strNewM D2.out chunkB _ _ 2 _ 20 rfl rfl rfl (by decide) (by decide) (by decide)).mono ?_
  rintro e w3 ⟨⟨y, rfl, hy⟩, hd3, hg3⟩
  have D3 := hide hd3
  have B3 := hide (dc_below B2.out hg3)
  have hq1 : ¬ (9223372036854775807 < x.size + y.size) := by omega
  clear hd3 hg3 D2 B2
  go_wp2_with fail
  refine (l4Sizes_any D3.out).mono ?_
  rintro e w4 ⟨⟨v, rfl, hv⟩, hd4, hg4⟩
  obtain ⟨ns, av, cv, hn, rfl, hI, hA⟩ := hv
  have D4 := hide hd4
  have B4 := hide (dc_below B3.out hg4)
  have hxy : (x ++ y).size ≤ 40 := by rw [ByteArray.size_append]; omega
  have hlen := putCs_len21 ns (x ++ y)
  have HP := hide (specPutChunksO_any (x ++ y) av ns cv w4.heap.size w4 hI (Nat.le_refl _) (by omega) (by omega))
  have hlt4 := D4.out.lt
  obtain ⟨lb, hlb⟩ : ∃ lb, putCs ns (x ++ y).data.toList = lb := ⟨_, rfl⟩
  rw [hlb] at HP hlen
  clear hd4 hg4 D3 B3 hI hA hlb
  go_wp2_with fail
  refine HP.out.mono ?_
  rintro e w5 ⟨⟨gb, cb, rfl, ho⟩, b5⟩
  obtain ⟨n, hln⟩ : ∃ n, lb.length = n := ⟨_, rfl⟩
  rw [hln] at ho ⊢
  have hbd := ho.bd
  have hnc := hbd.2.1
  have hcm := hbd.2.2.1
  have hgb : w4.heap.size ≤ gb ∧ gb < w5.heap.size := hbd.2.2.2
  have hl : n ≤ 1000 := by omega
  have D5 := hide (D4.out.other b5.size (fun j hj => b5.block j (by omega)))
  have B5 := hide (B4.out.trans (b5.mono B4.out.size))
  have hz4 := B4.out.size
  have O5 := hide ho
  clear HP ho b5 D4 B4 hbd hq1 hxy
  go_wp2_with fail
  refine (l1BelowX D5.out 5 (by decide) (by decide)).mono ?_
  rintro e w6 ⟨⟨k, rfl, hk⟩, hd6, hg6⟩
  have hz6 := hg6.size
  have D6 := hide hd6
  have B6 := hide (dc_below B5.out hg6)
  have O6 := hide (O5.out.same (hg6.block gb hgb.2 (by simp; omega)))
  have hgb6 : w.heap.size < gb ∧ gb < w6.heap.size := by omega
  have hw1 : IntKind.i64.wrap ((n : Int) + 1) = (n : Int) + 1 := by rw [IntKind.wrap_i64]; omega
  have hlb4 : lb.length ≤ 4000 := by omega
  clear D5 B5 O5 hd6 hg6
  by_cases k0 : k = 0
  · subst k0
    go_wp2_with fail
    refine (l1BelowX D6.out ((n : Int) + 1) (by omega) (by omega)).mono ?_
    rintro e w5 ⟨⟨m, rfl, hm⟩, hd5, hg5⟩
    have hz5 := hg5.size
    have B5 := hide (dc_below B6.out hg5)
    have I5 := hide (Ins.start hd5 (O6.out.same (hg5.block gb hgb6.2 (by simp; omega))) (by omega))
    have hm' : m ≤ n := by omega
    have hmi : (m : Int) ≤ (n : Int) := by omega
    have hmc : (m : Int) ≤ (cb : Int) := by omega
    have hnci : (n : Int) ≤ (cb : Int) := by omega
    have hlt5 := hd5.lt
    have hgb5 : gb < w5.heap.size := by omega
    clear hd5 hg5 D6 B6 O6
    go_wp2_with fail
    have ht1 : (lb.take m).length = m := by rw [List.length_take]; omega
    have hd1 : (lb.drop m).length = n - m := by rw [List.length_drop]; omega
    have hlc : lb.length ≤ cb := by omega
    have hm3 : m ≤ 2000 := by omega
    go_region_law (first
        | (refine Ins.append I3.out rfl _ _ rfl g3 (m + 1) c3 (lb.take m ++ [x]) rfl O3.out _ (n - m) (n + 1) (cb - m) (lb.drop m) rfl (tail_some gb m cb) hd1 (fun h => h.back m cb hlc) (by omega) (by omega) ?_
           intro g4 c4 W4 o4 i4 gr4
           have O4 := hide o4
           have I4 := hide i4
           clear o4 i4 gr4)
        | (refine Ins.append (I2.out.alloc _) rfl _ _ rfl g1 m c1 (lb.take m) rfl (O2.out.alloc _) _ 1 (m + 1) 1 [x] rfl ⟨_, _, rfl⟩ rfl (fun _ => byt_one W2 x) rfl (by omega) ?_
           intro g3 c3 W3 o3 i3 gr3
           have O3 := hide o3
           have I3 := hide i3
           clear o3 i3 gr3)
        | (refine Ins.append (by first | exact (I5.out.alloc _).drew | exact ((I5.out.alloc _).alloc _).drew) rfl _ _ rfl _ 0 0 [] rfl (OwnY.bareAt (by first | exact heap_alloc_new _ _ | exact heap_first _ _ _ | exact heap_second _ _ _) (by first | exact Nat.le_refl _ | exact Nat.le_succ _)) _ m m cb (lb.take m) rfl ⟨_, _, rfl⟩ ht1 (fun h => h.front m) (Nat.zero_add _) (by omega) ?_
           intro g1 c1 W1 o1 i1 gr1
           have O1 := hide o1
           have I1 := hide i1
           have G1 := hide gr1
           clear o1 i1 gr1)
        | (go_simp
           go_at_call 50
           refine (Ins.int (by first | exact I1.out.alloc _ | exact I1.out) chunkI _ 3 6 _ (by first | exact I1.out.gr.size | exact Nat.le_refl _ | exact Nat.le_succ _) rfl rfl (by decide) (by decide) (by decide) (by first | exact heap_alloc_new _ _ | exact (G1.out.block _ (by first | (simp; done) | (simp; omega)) (by first | (simp; done) | (simp; omega))).trans (heap_first _ _ _) | exact (G1.out.block _ (by first | (simp; done) | (simp; omega)) (by first | (simp; done) | (simp; omega))).trans (heap_second _ _ _))).mono ?_
           rintro e W2 ⟨⟨x, rfl⟩, i2, gr2⟩
           have hwx := wrap_u8 x
           have o2 : OwnY W2 w5.heap.size (.slice (some ⟨g1, 0, none⟩) m c1) (lb.take m) := by
             have hb1 := O1.out.bd
             have hN1 := I1.out.hN
             first
               | exact (O1.out.alloc _).same (gr2.block g1 (by simp; omega) (by simp; omega))
               | exact O1.out.same (gr2.block g1 (by omega) (by simp; omega))
           have O2 := hide o2
           have I2 := hide i2
           clear o2 i2 gr2))
    all_goals
      have D4 := hide I4.out.dx
      have hO4 := O4.out.base (show w.heap.size ≤ w5.heap.size by omega)
      have O4b := hide hO4
      have hl4 := O4.out.bd.1
      have hg4 := O4.out.bd.2.2.2.1
      have hN5 : w.heap.size < w5.heap.size := by omega
      have B4 : Hid (Below w.heap.size w W4) := B5.out.trans ⟨I4.out.gr.os, I4.out.gr.tape, I4.out.gr.output, I4.out.gr.size, fun j hj => I4.out.gr.block j (by omega) (by simp; omega)⟩
      clear hO4
      generalize (if cb = m then some (⟨gb, 0, none⟩ : Addr) else some ⟨gb, m, none⟩) = ta
      go_wp2_with fail
      refine (intNewX D4.out [0, 0, 0, 0, 1, ((n + 1) : Int), -1, 9999] _ _ 8 _ rfl rfl rfl (by decide) (by decide)).mono ?_
      rintro e w9 ⟨⟨z, rfl⟩, hd9, hg9⟩
      have hb9 := O4b.out.bd
      have hF : RetY w9 w.heap.size 4000 (.slice (some ⟨g4, 0, none⟩) (n + 1) c4) := ⟨_, by omega, O4b.out.same (hg9.block g4 hb9.2.2.2.2 (by simp; omega))⟩
      have HF := hide hF
      have HB9 := hide (dc_below B4.out hg9)
      clear hF hd9 hg9 hb9
      go_wp2
      go_ret2
      exact ⟨⟨_, _, rfl, HF.out⟩, HB9.out⟩
  · have k0' : ((k : Int) == 0) = false := by apply beq_eq_false_iff_ne.2; omega
    by_cases k1 : k = 1
    · subst k1
      go_wp2_with fail
      refine (l1BelowX D6.out ((n : Int) + 1) (by omega) (by omega)).mono ?_
      rintro e w7 ⟨⟨m, rfl, hm⟩, hd7, hg7⟩
      have D7 := hide hd7
      have B7 := hide (dc_below B6.out hg7)
      have O7 := hide (((O6.out.same (hg7.block gb hgb6.2 (by simp; omega))).base hz4).take m (by omega))
      have hmc : (m : Int) ≤ (cb : Int) := by omega
      clear hd7 hg7 D6 B6 O6
      go_wp2_with fail
      refine (intNewX D7.out [0, 0, 0, 0, 1, (m : Int), -1, 9999] _ _ 8 _ rfl rfl rfl (by decide) (by decide)).mono ?_
      rintro e w9 ⟨⟨z, rfl⟩, hd9, hg9⟩
      have hb9 := O7.out.bd
      have hF : RetY w9 w.heap.size 4000 (.slice (some ⟨gb, 0, none⟩) m cb) := ⟨_, by rw [List.length_take]; omega, O7.out.same (hg9.block gb hb9.2.2.2.2 (by simp; omega))⟩
      have HF := hide hF
      have HB9 := hide (dc_below B7.out hg9)
      clear hF hd9 hg9 hb9
      go_wp2
      go_ret2
      exact ⟨⟨_, _, rfl, HF.out⟩, HB9.out⟩
    · have k1' : ((k : Int) == 1) = false := by apply beq_eq_false_iff_ne.2; omega
      by_cases k2 : k = 2
      · subst k2
        go_wp2_with fail
        refine (strNewM D6.out chunkX _ _ 10 _ 100 rfl rfl rfl (by decide) (by decide) (by decide)).mono ?_
        rintro e w7 ⟨⟨t, rfl, ht⟩, hd7, hg7⟩
        have hcv := Lib.run_convert_string_bytes (P := Tryz.prog) w7 9 22 5 t Tryz.underlying9 Tryz.underlying22 Tryz.underlying5
        have hbw := below_bytesP w7 t
        have hlt7 := hd7.lt
        have D8 := hide (hd7.other hbw.size (fun j hj => hbw.block j (by omega)))
        have B7 := dc_below B6.out hg7
        have B8 := hide (B7.trans (hbw.mono B7.size))
        have O8 := hide ((OwnY.made w7 t (by omega)).base B7.size)
        have htl : t.data.toList.length ≤ 4000 := by rw [Array.length_toList]; exact Nat.le_trans ht (by decide)
        obtain ⟨w8, hw8⟩ : ∃ w8, Lib.bytesWorld w7 5 t = w8 := ⟨_, rfl⟩
        obtain ⟨c8, hc8⟩ : ∃ c8, grownCap w7 t.size 0 5 = c8 := ⟨_, rfl⟩
        rw [hw8] at D8 B8 O8 hcv
        rw [hc8] at O8 hcv
        have hg8 : w7.heap.size ≠ w.heap.size := by omega
        have hg8' : w.heap.size < w7.heap.size := by omega
        clear hbw B7 hd7 hg7 D6 B6 O6 hw8 hc8
        go_wp2_with fail
        refine (intNewX D8.out [0, 0, 0, 0, 1, (t.size : Int), -1, 9999] _ _ 8 _ rfl rfl rfl (by decide) (by decide)).mono ?_
        rintro e w9 ⟨⟨z, rfl⟩, hd9, hg9⟩
        have hb9 := O8.out.bd
        have hF : RetY w9 w.heap.size 4000 (.slice (some ⟨w7.heap.size, 0, none⟩) t.size c8) := ⟨_, htl, O8.out.same (hg9.block w7.heap.size hb9.2.2.2.2 (by simp; omega))⟩
        have HF := hide hF
        have HB9 := hide (dc_below B8.out hg9)
        clear hF hd9 hg9 hb9
        go_wp2
        go_ret2
        exact ⟨⟨_, _, rfl, HF.out⟩, HB9.out⟩
      · have k2' : ((k : Int) == 2) = false := by apply beq_eq_false_iff_ne.2; omega
        go_wp2_with fail
        refine (intNewX D6.out [0, 0, 0, 0, 1, (n : Int), -1, 9999] _ _ 8 _ rfl rfl rfl (by decide) (by decide)).mono ?_
        rintro e w9 ⟨⟨z, rfl⟩, hd9, hg9⟩
        have hb9 := O6.out.bd
        have hF : RetY w9 w.heap.size 4000 (.slice (some ⟨gb, 0, none⟩) n cb) := ⟨_, hlb4, (O6.out.base hz4).same (hg9.block gb hb9.2.2.2.2 (by simp; omega))⟩
        have HF := hide hF
        have HB9 := hide (dc_below B6.out hg9)
        clear hF hd9 hg9 hb9
        go_wp2
        go_ret2
        exact ⟨⟨_, _, rfl, HF.out⟩, HB9.out⟩
end Go.Proofs.YtcgmokjnjmefpaaGreatDoor
namespace Go.Proofs.YtcgmokjnjmefpaaGreatDoor
open Go.RowKit M
set_option linter.unusedVariables false

set_option maxHeartbeats 1000000 in
theorem at_any {w : World} {B : Nat} {a : Option Addr} {len : Nat} {zs : List Int} (h : CodeIn w B a len zs) (cap i : Nat) (hi : i ≤ 100) :
    Calls Tryz.prog 11 #[.slice a len cap, .int .i64 i] w fun e w' => (∃ k : Nat, k ≤ 255 ∧ e = .returned (.int .i64 k)) ∧ w' = w := by
  have hlen := h.hlen
  by_cases hil : i < len
  · obtain ⟨b, off, rfl, hcell⟩ := h.code.at0 (by omega)
    have hb := h.code.bd i hil
    have hcx := hcell i hil
    have hi' : (i : Int) < (len : Int) := by omega
    clear h hcell
    generalize zs.getD i 0 = z at hb hcx
    obtain ⟨k, rfl⟩ : ∃ k : Nat, z = (k : Int) := ⟨z.toNat, by omega⟩
    have hk : k ≤ 255 := by omega
    have hwk : IntKind.i64.wrap (k : Int) = (k : Int) := by rw [IntKind.wrap_i64]; omega
    clear hb
    go_enter Tryz.func11, Tryz.ntmps11
    go_wp2
    go_ret
    exact ⟨⟨k, hk, by first | rfl | rw [hwk]⟩, rfl⟩
  · have hi' : ¬ ((i : Int) < (len : Int)) := by omega
    have hw1 : IntKind.i64.wrap ((i : Int) * 31) = (i : Int) * 31 := by rw [IntKind.wrap_i64]; omega
    have hw2 : IntKind.i64.wrap ((len : Int) * 7) = (len : Int) * 7 := by rw [IntKind.wrap_i64]; omega
    have hw3 : IntKind.i64.wrap ((i : Int) * 31 + (len : Int) * 7) = (i : Int) * 31 + (len : Int) * 7 := by rw [IntKind.wrap_i64]; omega
    obtain ⟨k, hk⟩ : ∃ k : Nat, k = (i * 31 + len * 7) % 256 := ⟨_, rfl⟩
    have hk255 : k ≤ 255 := by omega
    have hk' : ((i : Int) * 31 + (len : Int) * 7).tmod 256 = (k : Int) := by rw [Int.tmod_eq_emod_of_nonneg (by omega)]; omega
    clear h hk
    go_enter Tryz.func11, Tryz.ntmps11
    go_wp2
    go_ret
    exact ⟨⟨k, hk255, by first | rfl | rw [hk']⟩, rfl⟩
end Go.Proofs.YtcgmokjnjmefpaaGreatDoor
namespace Go.Proofs.YtcgmokjnjmefpaaGreatDoor
open Go.RowKit M
set_option linter.unusedVariables false

def atN (len : Nat) (zs : List Int) (i : Nat) : Nat := if i < len then (zs.getD i 0).toNat else (i * 31 + len * 7) % 256

set_option maxHeartbeats 1000000 in
theorem at_is {w : World} {B : Nat} {a : Option Addr} {len : Nat} {zs : List Int} (h : CodeIn w B a len zs) (cap i : Nat) (hi : i ≤ 100) :
    Calls Tryz.prog 11 #[.slice a len cap, .int .i64 i] w fun e w' => e = .returned (.int .i64 (atN len zs i : Nat)) ∧ w' = w := by
  have hlen := h.hlen
  unfold atN
  by_cases hil : i < len
  · rw [if_pos hil]
    obtain ⟨b, off, rfl, hcell⟩ := h.code.at0 (by omega)
    have hb := h.code.bd i hil
    have hcx := hcell i hil
    have hi' : (i : Int) < (len : Int) := by omega
    clear h hcell
    generalize zs.getD i 0 = z at hb hcx
    obtain ⟨k, rfl⟩ : ∃ k : Nat, z = (k : Int) := ⟨z.toNat, by omega⟩
    have hk : k ≤ 255 := by omega
    have hwk : IntKind.i64.wrap (k : Int) = (k : Int) := by rw [IntKind.wrap_i64]; omega
    clear hb
    go_enter Tryz.func11, Tryz.ntmps11
    go_wp2
    go_ret
    exact ⟨by first | rfl | (rw [Int.toNat_natCast]) | (rw [hwk, Int.toNat_natCast]), rfl⟩
  · rw [if_neg hil]
    have hi' : ¬ ((i : Int) < (len : Int)) := by omega
    have hw1 : IntKind.i64.wrap ((i : Int) * 31) = (i : Int) * 31 := by rw [IntKind.wrap_i64]; omega
    have hw2 : IntKind.i64.wrap ((len : Int) * 7) = (len : Int) * 7 := by rw [IntKind.wrap_i64]; omega
    have hw3 : IntKind.i64.wrap ((i : Int) * 31 + (len : Int) * 7) = (i : Int) * 31 + (len : Int) * 7 := by rw [IntKind.wrap_i64]; omega
    obtain ⟨k, hk⟩ : ∃ k : Nat, k = (i * 31 + len * 7) % 256 := ⟨_, rfl⟩
    have hk' : ((i : Int) * 31 + (len : Int) * 7).tmod 256 = (k : Int) := by rw [Int.tmod_eq_emod_of_nonneg (by omega)]; omega
    rw [← hk]
    clear h hk
    go_enter Tryz.func11, Tryz.ntmps11
    go_wp2
    go_ret
    exact ⟨by first | rfl | rw [hk'], rfl⟩
theorem atN_le {w : World} {B : Nat} {a : Option Addr} {len : Nat} {zs : List Int} (h : CodeIn w B a len zs) (i : Nat) : atN len zs i ≤ 255 := by
  unfold atN
  by_cases hil : i < len
  · rw [if_pos hil]
    have hb := h.code.bd i hil
    omega
  · rw [if_neg hil]
    omega
end Go.Proofs.YtcgmokjnjmefpaaGreatDoor
namespace Go.Proofs.YtcgmokjnjmefpaaGreatDoor
open Go.RowKit
set_option linter.unusedVariables false

theorem run_append_keep (w : World) (B : Nat) (g cap : Nat) (l : List UInt8) (ty : TypeId) (h : OwnY w B (.slice (some ⟨g, 0, none⟩) l.length cap) l) (g0 : Nat) (m : List UInt8) (c : Nat) (hm : ∀ j (hj : j < m.length), w.cell? ⟨g0, j, none⟩ = some (.int .u8 m[j].toNat)) (hs : l.length + m.length ≤ 4398046511104) (hB : B ≤ w.heap.size) :
    ∃ g' c' w', (Builtin.append_ #[22, 22] ty #[.slice (some ⟨g, 0, none⟩) l.length cap, .slice (some ⟨g0, 0, none⟩) m.length c]).run Tryz.prog w = .ok (.slice (some ⟨g', 0, none⟩) (l.length + m.length) c') w' ∧ OwnY w' B (.slice (some ⟨g, 0, none⟩) l.length cap) l ∧ w.grownBy w' (some g) := by
  obtain ⟨v', w', hr, ho', hgr, hor⟩ := run_append_byts w B _ l ty h g0 m c hm hs hB
  obtain ⟨g', c', rfl, ho⟩ := ho'.slice
  rw [List.length_append] at hr ho
  refine ⟨g', c', w', hr, ?_, hgr⟩
  have h0 := h
  obtain ⟨i0, hi, hz0, hz1, hz2⟩ := info_parts infoU8
  obtain ⟨g1, cap1, cur, fz, e1, hBg, hg, hfz, hn, hcm, hcs, htake⟩ := h
  cases e1
  have hnews : ∀ j u, (Lib.byteCells m)[j]? = some u → w.cell? ((⟨g0, 0, none⟩ : Addr).add j) = some u := by
    intro j u hu
    have hj : j < m.length := by
      have := (List.getElem?_eq_some_iff.1 hu).1
      rwa [Lib.byteCells_length] at this
    have hadd : (⟨g0, 0, none⟩ : Addr).add j = ⟨g0, j, none⟩ := by unfold Addr.add; split <;> simp_all
    rw [hadd, hm j hj]
    simp [Lib.byteCells, List.getElem?_eq_getElem hj] at hu
    rw [← hu]
  have hone : ∀ u ∈ Lib.byteCells m, u.oneCell' = true := by
    intro u hu
    simp only [Lib.byteCells, List.mem_map] at hu
    obtain ⟨c, _, rfl⟩ := hu
    rfl
  by_cases hroom : l.length + m.length ≤ cap
  · have hf := run_firstCells_some (P := Tryz.prog) w 1 m.length ⟨g0, 0, none⟩ m.length c (Lib.byteCells m) (by rw [Lib.byteCells_length]; omega) hnews
    have hst := storeCells_behind Tryz.prog g l.length 5 fz (Lib.byteCells m) 0 cur w hg hfz (by rw [Lib.byteCells_length]; omega) hone
    simp only [Nat.add_zero, Lib.byteCells_length] at hst
    have hr2 : (Builtin.append_ #[22, 22] ty #[.slice (some ⟨g, 0, none⟩) l.length cap, .slice (some ⟨g0, 0, none⟩) m.length c]).run Tryz.prog w = .ok (.slice (some ⟨g, 0, none⟩) (l.length + m.length) cap) (w.setRow g (cur.toList.take l.length ++ Lib.byteCells m ++ cur.toList.drop (l.length + m.length)).toArray) := by
      simp [Builtin.append_, run_underlying Tryz.underlying22, sizeOf, typeInfo, hi, hz1, Builtin.lenOf, hroom, hf, Addr.add_lit, hst]
    rw [hr2] at hr
    injection hr with e1 e2
    subst e2
    refine ⟨g, cap, _, fz, rfl, hBg, setRow_heap w g cur _ 5 _ hg, ?_, hn, hcm, ?_, ?_⟩
    · rcases hfz with hfz | hfz
      · exact .inl hfz
      · right
        simp only [List.size_toArray, List.length_append, List.length_take, List.length_drop, Array.length_toList, Lib.byteCells_length]
        omega
    · simp only [List.size_toArray, List.length_append, List.length_take, List.length_drop, Array.length_toList, Lib.byteCells_length]
      omega
    · rw [htake]
      have e3 : l.length = (Lib.byteCells l).length := by rw [Lib.byteCells_length]
      simp only [List.append_assoc]
      rw [e3]
      exact List.take_left
  · have holds : ∀ j u, (Lib.byteCells l)[j]? = some u → w.cell? ((⟨g, 0, none⟩ : Addr).add j) = some u := by
      intro j u hu
      have hadd : (⟨g, 0, none⟩ : Addr).add j = ⟨g, j, none⟩ := by unfold Addr.add; split <;> simp_all
      rw [hadd, ← htake] at *
      rw [List.getElem?_take] at hu
      split at hu
      · simp [World.cell?, hg]; simpa using hu
      · cases hu
    have hr2 := run_append_grow (P := Tryz.prog) w 22 ty 5 i0 (.int .u8 0) Tryz.underlying22 hi hz0 ⟨g, 0, none⟩ l.length cap (Lib.byteCells l) (by rw [hz1, Lib.byteCells_length, Nat.mul_one]) holds ⟨g0, 0, none⟩ m.length c (Lib.byteCells m) (by rw [hz1, Lib.byteCells_length, Nat.mul_one]) hnews (by omega) (by omega) (by rw [hz2]; exact growslice_fits (by omega) (by omega))
    rw [hr2] at hr
    injection hr with e1 e2
    subst e2
    exact h0.same (((Below.refl w.drew.heap.size w.drew).alloc (Nat.le_refl _) _).block g (Array.getElem?_eq_some_iff.1 hg).1)

theorem wp_append_keep {w : World} {ops : Array Oper} {rest : List Oper} {o : Oper} {a : Act} {Q : Exit → Act → World → Prop} (hgd : o.guard = none) (sl x : Operand)
    (ho : o.op = .call { callee := .builtin .append, args := #[sl, x], argTypes := #[22, 22] })
    (B g cap : Nat) (l : List UInt8) (hs : a.eval sl = .slice (some ⟨g, 0, none⟩) l.length cap) (hown : OwnY w B (.slice (some ⟨g, 0, none⟩) l.length cap) l) (g0 : Nat) (m : List UInt8) (c : Nat) (hx : a.eval x = .slice (some ⟨g0, 0, none⟩) m.length c) (hm : ∀ j (hj : j < m.length), w.cell? ⟨g0, j, none⟩ = some (.int .u8 m[j].toNat)) (hlen : l.length + m.length ≤ 4398046511104) (hB : B ≤ w.heap.size)
    (n : Nat) (hn : n = l.length + m.length) (h : ∀ g' c' w', OwnY w' B (.slice (some ⟨g, 0, none⟩) l.length cap) l → w.grownBy w' (some g) → wpList Tryz.prog ops Q rest (a.put o.dst (.slice (some ⟨g', 0, none⟩) n c')) w') : wpList Tryz.prog ops Q (o :: rest) a w := by
  refine wpList_plain hgd fun K hK => ?_
  obtain ⟨g', c', w', hr, h2, h3⟩ := run_append_keep w B g cap l o.type hown g0 m c hm hlen hB
  unfold Oper.wp execOp
  simp only [ho, resolve, invoke, builtin, Sem.run_bind, Sem.run_pure, Result.andThen_ok, List.map_toArray, List.map_cons, List.map_nil, hs, hx, hr]
  rw [← hn]
  exact hK _ _ (h g' c' w' h2 h3)
end Go.Proofs.YtcgmokjnjmefpaaGreatDoor
namespace Go.Proofs.YtcgmokjnjmefpaaGreatDoor.M

/-- The worth of decimal digits, the first one the greatest, behind a number. -/
def decValF (n : Nat) (l : List UInt8) : Nat := l.foldl (fun n c => n * 10 + (c.toNat - 48)) n
def decVal (l : List UInt8) : Nat := decValF 0 l

theorem decVal_snoc (l : List UInt8) (c : UInt8) : decVal (l ++ [c]) = decVal l * 10 + (c.toNat - 48) := by
  simp [decVal, decValF]

def digs (l : List UInt8) : Bool := allB l [4]

theorem digs_cons (c : UInt8) (r : List UInt8) : digs (c :: r) = true → (48 ≤ c.toNat ∧ c.toNat ≤ 57) ∧ digs r = true := by
  intro h
  have h1 : isB (c.toNat : Int) 4 = true ∧ digs r = true := by simpa [digs, allB, anyB] using h
  refine ⟨?_, h1.2⟩
  have := h1.1; simp [isB] at this; omega

theorem decFrom_val (l : List UInt8) : ∀ n, digs l = true → Lib.decFrom n l = some (decValF n l) := by
  induction l with
  | nil => intro n _; rfl
  | cons c r ih =>
    intro n h
    obtain ⟨h1, h2⟩ := digs_cons c r h
    have hd : Lib.digitVal c = some (c.toNat - 48) := by unfold Lib.digitVal; rw [if_pos h1]
    simp only [Lib.decFrom, hd]
    exact ih _ h2

theorem atoi_val (l : List UInt8) (h : digs l = true) (h0 : 1 ≤ l.length) : Lib.atoi l = some (decVal l : Int) := by
  match l, h, h0 with
  | c :: r, h, _ =>
    obtain ⟨h1, _⟩ := digs_cons c r h
    have e45 : (c == 45) = false := by
      rw [beq_eq_false_iff_ne]; intro e; subst e; exact absurd h1.1 (by decide)
    have e43 : (c == 43) = false := by
      rw [beq_eq_false_iff_ne]; intro e; subst e; exact absurd h1.1 (by decide)
    simp only [Lib.atoi, e45, e43]
    simp [Lib.decNat, decFrom_val _ _ h, decVal]

theorem decVal_lt (l : List UInt8) (h : digs l = true) : decVal l < 10 ^ l.length := by
  have := Lib.decFrom_lt l 0 _ (decFrom_val l 0 h)
  simpa [decVal] using this

theorem pow_le8 {k : Nat} (h : k ≤ 8) : 10 ^ k ≤ 100000000 := by
  have := Nat.pow_le_pow_right (show 0 < 10 by decide) h
  exact this

/-- What ParseNum answers. -/
def parseOk (l : List UInt8) (most : Int) : Prop := 1 ≤ l.length ∧ l.length ≤ 7 ∧ digs l = true ∧ ¬ (1 < l.length ∧ l.head? = some 48) ∧ (decVal l : Int) ≤ most
def parseB (l : List UInt8) (most : Int) : Bool := decide (1 ≤ l.length) && (decide (l.length ≤ 7) && (digs l && (!(decide (1 < l.length) && l.head? == some 48) && decide ((decVal l : Int) ≤ most))))
theorem parseB_iff (l : List UInt8) (most : Int) : parseB l most = true ↔ parseOk l most := by
  simp only [parseB, parseOk, Bool.and_eq_true, decide_eq_true_eq, Bool.not_eq_true', Bool.and_eq_false_iff, decide_eq_false_iff_not]
  constructor
  · rintro ⟨a, b, c, d, e⟩
    refine ⟨a, b, c, ?_, e⟩
    rintro ⟨x, y⟩
    rcases d with d | d
    · exact d x
    · simp [y] at d
  · rintro ⟨a, b, c, d, e⟩
    refine ⟨a, b, c, ?_, e⟩
    by_cases x : 1 < l.length
    · right
      rw [beq_eq_false_iff_ne]
      exact fun y => d ⟨x, y⟩
    · exact .inl x
def parseNum (l : List UInt8) (most : Int) : Int × Bool := if parseB l most then ((decVal l : Int), true) else (0, false)
theorem parseNum_no {l : List UInt8} {most : Int} (h : ¬ parseOk l most) : parseNum l most = (0, false) := if_neg (fun e => h ((parseB_iff l most).1 e))
theorem parseNum_yes {l : List UInt8} {most : Int} (h : parseOk l most) : parseNum l most = ((decVal l : Int), true) := if_pos ((parseB_iff l most).2 h)

theorem digs_snoc (s : ByteArray) (k : Nat) (h : k < s.size) (h0 : digs (s.data.toList.take k) = true) (h2 : isB (s[k].toNat : Int) 4 = true) : digs (s.data.toList.take (k + 1)) = true :=
  allB_snoc s [4] k h h0 (by rw [anyB_one, h2]; rfl)
theorem digs_not (s : ByteArray) (k : Nat) (h : k < s.size) (h2 : isB (s[k].toNat : Int) 4 = false) : digs s.data.toList = false :=
  allB_not s [4] k h (by rw [anyB_one, h2]; rfl)
theorem decVal_step (s : ByteArray) (k : Nat) (h : k < s.size) : decVal (s.data.toList.take (k + 1)) = decVal (s.data.toList.take k) * 10 + (s[k].toNat - 48) := by
  rw [take_snoc s k h, decVal_snoc]
theorem isB4 {c : Int} (h : isB c 4 = true) : 48 ≤ c ∧ c ≤ 57 := by simp [isB] at h; omega
theorem head_get (s : ByteArray) (h : 0 < s.size) : s.data.toList.head? = some s[0] := by
  have e : s.data.toList.length = s.size := Array.length_toList
  rw [List.head?_eq_getElem?, List.getElem?_eq_getElem (by omega)]; rfl
theorem len_list (s : ByteArray) : s.data.toList.length = s.size := Array.length_toList

theorem not_size {s : ByteArray} {most : Int} (h : inB (s.size : Int) 1 7 = false) : ¬ parseOk s.data.toList most := by
  intro hp
  have e := len_list s
  have h1 : 1 ≤ s.size ∧ s.size ≤ 7 := by have := hp.1; have := hp.2.1; omega
  simp [inB] at h
  omega
theorem not_nought {s : ByteArray} {most : Int} (h0 : 0 < s.size) (h1 : 1 < s.size) (hz : (((s[0]).toNat : Int) == 48) = true) : ¬ parseOk s.data.toList most := by
  intro hp
  refine hp.2.2.2.1 ⟨by rw [len_list]; exact h1, ?_⟩
  rw [head_get s h0]
  have : (s[0]).toNat = 48 := by simp at hz; omega
  congr 1
  exact UInt8.toNat_inj.1 this
theorem not_most {l : List UInt8} {most : Int} (h : most < (decVal l : Int)) : ¬ parseOk l most := fun hp => by have := hp.2.2.2.2; omega
theorem not_digs {l : List UInt8} {most : Int} (h : digs l = false) : ¬ parseOk l most := fun hp => by have := hp.2.2.1; rw [h] at this; cases this
theorem is_ok {s : ByteArray} {most : Int} (h0 : 0 < s.size) (h : inB (s.size : Int) 1 7 = true) (hd : digs s.data.toList = true) (hz : 1 < s.size → (((s[0]).toNat : Int) == 48) = false) (hm : ¬ most < (decVal s.data.toList : Int)) : parseOk s.data.toList most := by
  have e := len_list s
  have h1 : 1 ≤ s.size ∧ s.size ≤ 7 := by simp [inB] at h; omega
  refine ⟨by omega, by omega, hd, ?_, by omega⟩
  rintro ⟨h2, h3⟩
  rw [head_get s h0] at h3
  have h4 := hz (by omega)
  have h5 : s[0] = 48 := Option.some.inj h3
  rw [h5] at h4
  simp at h4

end Go.Proofs.YtcgmokjnjmefpaaGreatDoor.M
namespace Go.Proofs.YtcgmokjnjmefpaaGreatDoor.M

/-- The worth of a digit to the base 16. -/
def hexW (c : UInt8) : Nat := if isB (c.toNat : Int) 4 then c.toNat - 48 else if isB (c.toNat : Int) 5 then c.toNat - 87 else c.toNat - 55
def isHex (c : UInt8) : Bool := anyB (c.toNat : Int) [4, 5, 6]
def hexVal (l : List UInt8) : Nat := l.foldl (fun n c => n * 16 + hexW c) 0
def hexs (l : List UInt8) : Bool := allB l [4, 5, 6]

theorem hexVal_snoc (l : List UInt8) (c : UInt8) : hexVal (l ++ [c]) = hexVal l * 16 + hexW c := by
  simp [hexVal]

theorem isHex_cases {c : UInt8} (h : isHex c = true) : isB (c.toNat : Int) 4 = true ∨ (isB (c.toNat : Int) 4 = false ∧ isB (c.toNat : Int) 5 = true) ∨ (isB (c.toNat : Int) 4 = false ∧ isB (c.toNat : Int) 5 = false ∧ isB (c.toNat : Int) 6 = true) := by
  unfold isHex anyB at h
  cases h4 : isB (c.toNat : Int) 4 <;> cases h5 : isB (c.toNat : Int) 5 <;> cases h6 : isB (c.toNat : Int) 6 <;> simp_all

theorem isB5 {c : Int} (h : isB c 5 = true) : 97 ≤ c ∧ c ≤ 102 := by simp [isB] at h; omega
theorem isB6 {c : Int} (h : isB c 6 = true) : 65 ≤ c ∧ c ≤ 70 := by simp [isB] at h; omega

theorem hexW_4 {c : UInt8} (h : isB (c.toNat : Int) 4 = true) : hexW c = c.toNat - 48 := by simp [hexW, h]
theorem hexW_5 {c : UInt8} (h4 : isB (c.toNat : Int) 4 = false) (h : isB (c.toNat : Int) 5 = true) : hexW c = c.toNat - 87 := by simp [hexW, h4, h]
theorem hexW_6 {c : UInt8} (h4 : isB (c.toNat : Int) 4 = false) (h5 : isB (c.toNat : Int) 5 = false) : hexW c = c.toNat - 55 := by simp [hexW, h4, h5]

theorem hexW_lt {c : UInt8} (h : isHex c = true) : hexW c < 16 := by
  rcases isHex_cases h with h4 | ⟨h4, h5⟩ | ⟨h4, h5, h6⟩
  · have := isB4 h4; rw [hexW_4 h4]; omega
  · have := isB5 h5; rw [hexW_5 h4 h5]; omega
  · have := isB6 h6; rw [hexW_6 h4 h5]; omega

theorem hexs_get (s : ByteArray) (h : hexs s.data.toList = true) (k : Nat) (hk : k < s.size) : isHex s[k] = true := by
  have h1 := (List.all_eq_true.1 h) s[k] (by
    have e := len_list s
    have h' : k < s.data.toList.length := by omega
    exact List.getElem_mem h')
  exact h1

theorem hexs_snoc (s : ByteArray) (k : Nat) (h : k < s.size) (h0 : hexs (s.data.toList.take k) = true) (h2 : isHex s[k] = true) : hexs (s.data.toList.take (k + 1)) = true :=
  allB_snoc s [4, 5, 6] k h h0 (by rw [show anyB (s[k].toNat : Int) [4, 5, 6] = true from h2]; rfl)
theorem hexs_not (s : ByteArray) (k : Nat) (h : k < s.size) (h2 : isHex s[k] = false) : hexs s.data.toList = false :=
  allB_not s [4, 5, 6] k h (by rw [show anyB (s[k].toNat : Int) [4, 5, 6] = false from h2]; rfl)
theorem hexVal_step (s : ByteArray) (k : Nat) (h : k < s.size) : hexVal (s.data.toList.take (k + 1)) = hexVal (s.data.toList.take k) * 16 + hexW s[k] := by
  rw [take_snoc s k h, hexVal_snoc]

theorem hexVal_lt (s : ByteArray) (k : Nat) (hk : k ≤ s.size) (h : hexs (s.data.toList.take k) = true) : hexVal (s.data.toList.take k) < 16 ^ k := by
  induction k with
  | zero => simp [hexVal]
  | succ k ih =>
    have hk' : k < s.size := by omega
    have h1 : hexs (s.data.toList.take k) = true ∧ isHex s[k] = true := by
      rw [take_snoc s k hk'] at h
      simpa [hexs, allB, isHex] using h
    have := ih (by omega) h1.1
    have := hexW_lt h1.2
    rw [hexVal_step s k hk', Nat.pow_succ]
    omega

theorem pow16_le {k : Nat} (h : k ≤ 5) : 16 ^ k ≤ 1048576 := Nat.pow_le_pow_right (show 0 < 16 by decide) h

/-- What ParseHex answers. -/
def hexB (l : List UInt8) : Bool := decide (1 ≤ l.length) && (decide (l.length ≤ 4) && hexs l)
def parseHex (l : List UInt8) : Int × Bool := if hexB l then ((hexVal l : Int), true) else (0, false)
theorem parseHex_yes {s : ByteArray} (h : inB (s.size : Int) 1 4 = true) (hd : hexs s.data.toList = true) : parseHex s.data.toList = ((hexVal s.data.toList : Int), true) := by
  have e := len_list s
  have h1 : 1 ≤ s.size ∧ s.size ≤ 4 := by simp [inB] at h; omega
  apply if_pos
  simp only [hexB, hd, Bool.and_true, Bool.and_eq_true, decide_eq_true_eq]
  omega
theorem parseHex_size {s : ByteArray} (h : inB (s.size : Int) 1 4 = false) : parseHex s.data.toList = (0, false) := by
  have e := len_list s
  have h1 : ¬ (1 ≤ s.size ∧ s.size ≤ 4) := by simp [inB] at h; omega
  apply if_neg
  intro hp
  simp only [hexB, Bool.and_eq_true, decide_eq_true_eq] at hp
  omega
theorem parseHex_no {l : List UInt8} (h : hexs l = false) : parseHex l = (0, false) := by
  apply if_neg
  simp [hexB, h]

/-- The specification's digit: below 0 where it is none. -/
def hexOf (c : UInt8) : Int := if isHex c then (hexW c : Int) else -1
theorem hexOf_yes {c : UInt8} (h : isHex c = true) : hexOf c = (hexW c : Int) := if_pos h
theorem hexOf_no {c : UInt8} (h : isHex c = false) : hexOf c = -1 := if_neg (by simp [h])

end Go.Proofs.YtcgmokjnjmefpaaGreatDoor.M
namespace Go.Proofs.YtcgmokjnjmefpaaGreatDoor.M

/-- The code of a line's end at a place. -/
def endC (l : List UInt8) (k : Nat) : Int := if l.length ≤ k then 1 else if l.getD k 0 ≠ 13 then 400 else if l.length ≤ k + 1 then 1 else if l.getD (k + 1) 0 ≠ 10 then 400 else 0
/-- What stands ahead of the next byte 13. -/
def wordC (l : List UInt8) (a : Nat) : List UInt8 := (l.drop a).takeWhile (· != 13)
/-- The code of a size's line. -/
def szC (l : List UInt8) (a : Nat) : Int := if l.length ≤ a then 1 else if hexB (wordC l a) then endC l (a + (wordC l a).length) else 400
def szN (l : List UInt8) (a : Nat) : Nat := hexVal (wordC l a)
def szP (l : List UInt8) (a : Nat) : Nat := a + (wordC l a).length + 2
/-- The code of a piece, with so much room. -/
def pieceC (l : List UInt8) (a room : Nat) : Int := if szC l a ≠ 0 then szC l a else if room < szN l a then 413 else if l.length < szP l a + szN l a then 1 else endC l (szP l a + szN l a)
def pieceL (l : List UInt8) (a : Nat) : List UInt8 := (l.drop (szP l a)).take (szN l a)
/-- A body in pieces. -/
def getC : Nat → List UInt8 → Nat → List UInt8 → List UInt8 × Nat × Int
  | 0, _, _, _ => ([], 0, 413)
  | f + 1, l, a, body => if pieceC l a (200 - body.length) ≠ 0 then ([], 0, pieceC l a (200 - body.length)) else if szN l a = 0 then (body, szP l a + 2, 0) else getC f l (szP l a + szN l a + 2) (body ++ pieceL l a)
def chunksC (l : List UInt8) (a : Int) : List UInt8 × Nat × Int := if 0 ≤ a ∧ a ≤ l.length then getC 201 l a.toNat [] else ([], 0, 400)

theorem wordC_le (l : List UInt8) (a : Nat) : a + (wordC l a).length ≤ max a l.length := by
  have h : (wordC l a).length ≤ (l.drop a).length := (List.takeWhile_prefix _).length_le
  rw [List.length_drop] at h
  omega
theorem tw_step (m : List UInt8) : ∀ j (hj : j < m.length), j ≤ (m.takeWhile (· != 13)).length → m[j] ≠ 13 → j + 1 ≤ (m.takeWhile (· != 13)).length := by
  induction m with
  | nil => intro j hj; simp at hj
  | cons x m ih =>
    intro j hj h0 h1
    cases j with
    | zero =>
      have hx : (x != 13) = true := by rw [bne_iff_ne]; exact h1
      simp [hx]
    | succ j =>
      by_cases hx : (x != 13) = true
      · simp only [List.takeWhile_cons, hx, if_true, List.length_cons] at h0 ⊢
        have := ih j (by simpa using hj) (by omega) (by simpa using h1)
        omega
      · simp [hx] at h0
theorem tw_stop (m : List UInt8) : ∀ j (hj : j < m.length), j ≤ (m.takeWhile (· != 13)).length → m[j] = 13 → (m.takeWhile (· != 13)).length = j := by
  induction m with
  | nil => intro j hj; simp at hj
  | cons x m ih =>
    intro j hj h0 h1
    cases j with
    | zero =>
      have hx : ¬ (x != 13) = true := by rw [bne_iff_ne]; intro h; exact h h1
      simp [hx]
    | succ j =>
      by_cases hx : (x != 13) = true
      · simp only [List.takeWhile_cons, hx, if_true, List.length_cons] at h0 ⊢
        have := ih j (by simpa using hj) (by omega) (by simpa using h1)
        omega
      · simp [hx] at h0
theorem drop_at {l : List UInt8} {a j : Nat} (h : a + j < l.length) : (l.drop a)[j]'(by rw [List.length_drop]; omega) = l.getD (a + j) 0 := by
  rw [List.getElem_drop]; simp [List.getD, List.getElem?_eq_getElem h]
/-- The word goes on; it ends. -/
theorem wordC_step {l : List UInt8} {a j : Nat} (h : a + j < l.length) (h0 : j ≤ (wordC l a).length) (h1 : l.getD (a + j) 0 ≠ 13) : j + 1 ≤ (wordC l a).length :=
  tw_step (l.drop a) j (by rw [List.length_drop]; omega) h0 (by rw [drop_at h]; exact h1)
theorem wordC_stop {l : List UInt8} {a j : Nat} (h : a + j < l.length) (h0 : j ≤ (wordC l a).length) (h1 : l.getD (a + j) 0 = 13) : (wordC l a).length = j :=
  tw_stop (l.drop a) j (by rw [List.length_drop]; omega) h0 (by rw [drop_at h]; exact h1)
theorem wordC_last {l : List UInt8} {a j : Nat} (ha : a ≤ l.length) (h : ¬ a + j < l.length) (h0 : j ≤ (wordC l a).length) : (wordC l a).length = j := by
  have := wordC_le l a
  omega
theorem wordC_take (l : List UInt8) (a : Nat) : (l.drop a).take (wordC l a).length = wordC l a := List.prefix_iff_eq_take.1 (List.takeWhile_prefix _) |>.symm
/-- Behind the word stands the end of all, or a byte 13. -/
theorem wordC_end {l : List UInt8} {a : Nat} (h : a + (wordC l a).length < l.length) : l.getD (a + (wordC l a).length) 0 = 13 := by
  by_cases e : l.getD (a + (wordC l a).length) 0 = 13
  · exact e
  · have := wordC_step h (Nat.le_refl _) e
    omega
theorem szC_long {l : List UInt8} {a : Nat} (ha : a ≤ l.length) (h : 5 ≤ (wordC l a).length) : szC l a = 400 := by
  have h1 := wordC_le l a
  have : ¬ l.length ≤ a := by omega
  simp [szC, this, hexB]
  intro _ h2
  omega
end Go.Proofs.YtcgmokjnjmefpaaGreatDoor.M
namespace Go.Proofs.YtcgmokjnjmefpaaGreatDoor
open Go.RowKit

theorem ret_two {a b : Int} {x y : Bool} (h : (a, x) = (b, y)) : Ending.returned (.tuple #[.int .i64 a, .bool x]) = .returned (.tuple #[.int .i64 b, .bool y]) := by
  cases h; rfl

theorem below_bytes (w : World) (e : TypeId) (s : ByteArray) : Below w.heap.size w (Lib.bytesWorld w e s) :=
  ⟨rfl, rfl, rfl, by rw [Lib.bytesWorld_size]; omega, fun k hk => Lib.bytesWorld_at_old w e s k hk⟩

theorem ret_int {k : IntKind} {a b : Int} (h : a = b) : Ending.returned (.int k a) = .returned (.int k b) := by rw [h]
end Go.Proofs.YtcgmokjnjmefpaaGreatDoor
