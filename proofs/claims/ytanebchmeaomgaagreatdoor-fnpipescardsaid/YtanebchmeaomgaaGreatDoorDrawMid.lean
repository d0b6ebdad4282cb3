/-
  What is known in the course of a draw of a request.
-/
import Derived.Test.YtanebchmeaomgaaGreatDoorDrawReq
import Derived.Test.YtanebchmeaomgaaGreatDoorStepHead
import Derived.Test.YtanebchmeaomgaaGreatDoorDrawI
import Derived.Laws.IdiomStrings
import Derived.Laws.BytesArg
import Derived.Deep.OwnRows
import Derived.Deep.RegionLaw
namespace Go.Proofs.YtanebchmeaomgaaGreatDoor
open Go.RowKit M
set_option linter.unusedVariables false

/-- A request of few short parts, in memory of its own. -/
def SmallR (r : Rq) : Prop := FewH 10 r.hs ∧ r.m.size ≤ 20 ∧ r.p.size ≤ 20 ∧ r.b.size ≤ 201
def AnyR (w' : World) (B : Nat) (e : Ending) : Prop := ∃ (r : Rq) (g c : Nat), SmallR r ∧ e = .returned (.agg #[.string r.m, .string r.p, .slice (some ⟨g, 0, none⟩) r.hs.length c, .string r.b]) ∧ w'.ownsRow B 82 2 (.slice (some ⟨g, 0, none⟩) r.hs.length c) r.hs.length (hdCells r.hs)

def anyM : List ByteArray := [⟨#[]⟩, ⟨#[103, 101, 116]⟩, ⟨#[84, 69, 78, 76, 69, 84, 84, 69, 82, 83]⟩, ⟨#[65, 32, 66]⟩]
def anyP : List ByteArray := [⟨#[]⟩, ⟨#[97, 32, 98]⟩, ⟨#[127]⟩]
def anyN : List ByteArray := [⟨#[99, 111, 110, 116, 101, 110, 116, 45, 108, 101, 110, 103, 116, 104]⟩, ⟨#[88]⟩, ⟨#[]⟩, ⟨#[97]⟩]
def anyV : List ByteArray := [⟨#[32, 97]⟩, ⟨#[97]⟩, ⟨#[13, 10]⟩]

/-- A box of a request's four values, which may be written. -/
def RBox (w : World) (M : Nat) (v0 v1 v2 v3 : Value) : Prop := M < w.heap.size ∧ w.cell? ⟨M, 0, none⟩ = some v0 ∧ w.cell? ⟨M, 1, none⟩ = some v1 ∧ w.cell? ⟨M, 2, none⟩ = some v2 ∧ w.cell? ⟨M, 3, none⟩ = some v3 ∧ w.frozen? ⟨M, 0, none⟩ = false ∧ w.frozen? ⟨M, 1, none⟩ = false ∧ w.frozen? ⟨M, 2, none⟩ = false ∧ w.frozen? ⟨M, 3, none⟩ = false
theorem RBox.made (w : World) (v0 v1 v2 v3 : Value) (T : TypeId) : RBox (w.alloc (Obj.cells #[v0, v1, v2, v3] T)) w.heap.size v0 v1 v2 v3 := ⟨by simp, by simp, by simp, by simp, by simp, by simp, by simp, by simp, by simp⟩
theorem RBox.of {w w' : World} {M : Nat} {v0 v1 v2 v3 : Value} (h : RBox w M v0 v1 v2 v3) (hs : w.heap.size ≤ w'.heap.size) (hb : w'.heap[M]? = w.heap[M]?) : RBox w' M v0 v1 v2 v3 := by
  have hc : ∀ o, w'.cell? ⟨M, o, none⟩ = w.cell? ⟨M, o, none⟩ := fun o => World.cell?_of_block (a := ⟨M, o, none⟩) hb
  have hf : ∀ o, w'.frozen? ⟨M, o, none⟩ = w.frozen? ⟨M, o, none⟩ := fun o => World.frozen?_of_block (a := ⟨M, o, none⟩) hb
  obtain ⟨h0, h1, h2, h3, h4, h5, h6, h7, h8⟩ := h
  exact ⟨Nat.lt_of_lt_of_le h0 hs, by rw [hc]; exact h1, by rw [hc]; exact h2, by rw [hc]; exact h3, by rw [hc]; exact h4, by rw [hf]; exact h5, by rw [hf]; exact h6, by rw [hf]; exact h7, by rw [hf]; exact h8⟩
theorem RBox.grown {w w' : World} {M N : Nat} {v0 v1 v2 v3 : Value} (h : RBox w M v0 v1 v2 v3) (hg : w.grownBy w' (some N)) (hN : N < M) : RBox w' M v0 v1 v2 v3 := h.of hg.size (hg.block M h.1 (by simp; omega))
theorem RBox.below {w w' : World} {M C : Nat} {v0 v1 v2 v3 : Value} (h : RBox w M v0 v1 v2 v3) (hb : Below C w w') (hC : M < C) : RBox w' M v0 v1 v2 v3 := h.of hb.size (hb.block M hC)
theorem RBox.set0 {w : World} {M : Nat} {v0 v1 v2 v3 : Value} (h : RBox w M v0 v1 v2 v3) (u : Value) : RBox (w.setCell ⟨M, 0, none⟩ u) M u v1 v2 v3 := by
  obtain ⟨h0, h1, h2, h3, h4, h5, h6, h7, h8⟩ := h
  exact ⟨by simpa using h0, World.cell?_setCell_same _ _ _ h1, (World.cell?_setCell_other _ _ _ _ (by simp)).trans h2, (World.cell?_setCell_other _ _ _ _ (by simp)).trans h3, (World.cell?_setCell_other _ _ _ _ (by simp)).trans h4, by rw [World.frozen?_setCell]; exact h5, by rw [World.frozen?_setCell]; exact h6, by rw [World.frozen?_setCell]; exact h7, by rw [World.frozen?_setCell]; exact h8⟩
theorem RBox.set1 {w : World} {M : Nat} {v0 v1 v2 v3 : Value} (h : RBox w M v0 v1 v2 v3) (u : Value) : RBox (w.setCell ⟨M, 1, none⟩ u) M v0 u v2 v3 := by
  obtain ⟨h0, h1, h2, h3, h4, h5, h6, h7, h8⟩ := h
  exact ⟨by simpa using h0, (World.cell?_setCell_other _ _ _ _ (by simp)).trans h1, World.cell?_setCell_same _ _ _ h2, (World.cell?_setCell_other _ _ _ _ (by simp)).trans h3, (World.cell?_setCell_other _ _ _ _ (by simp)).trans h4, by rw [World.frozen?_setCell]; exact h5, by rw [World.frozen?_setCell]; exact h6, by rw [World.frozen?_setCell]; exact h7, by rw [World.frozen?_setCell]; exact h8⟩
theorem RBox.set2 {w : World} {M : Nat} {v0 v1 v2 v3 : Value} (h : RBox w M v0 v1 v2 v3) (u : Value) : RBox (w.setCell ⟨M, 2, none⟩ u) M v0 v1 u v3 := by
  obtain ⟨h0, h1, h2, h3, h4, h5, h6, h7, h8⟩ := h
  exact ⟨by simpa using h0, (World.cell?_setCell_other _ _ _ _ (by simp)).trans h1, (World.cell?_setCell_other _ _ _ _ (by simp)).trans h2, World.cell?_setCell_same _ _ _ h3, (World.cell?_setCell_other _ _ _ _ (by simp)).trans h4, by rw [World.frozen?_setCell]; exact h5, by rw [World.frozen?_setCell]; exact h6, by rw [World.frozen?_setCell]; exact h7, by rw [World.frozen?_setCell]; exact h8⟩
theorem RBox.set3 {w : World} {M : Nat} {v0 v1 v2 v3 : Value} (h : RBox w M v0 v1 v2 v3) (u : Value) : RBox (w.setCell ⟨M, 3, none⟩ u) M v0 v1 v2 u := by
  obtain ⟨h0, h1, h2, h3, h4, h5, h6, h7, h8⟩ := h
  exact ⟨by simpa using h0, (World.cell?_setCell_other _ _ _ _ (by simp)).trans h1, (World.cell?_setCell_other _ _ _ _ (by simp)).trans h2, (World.cell?_setCell_other _ _ _ _ (by simp)).trans h3, World.cell?_setCell_same _ _ _ h4, by rw [World.frozen?_setCell]; exact h5, by rw [World.frozen?_setCell]; exact h6, by rw [World.frozen?_setCell]; exact h7, by rw [World.frozen?_setCell]; exact h8⟩

/-- All that is known in the course of such a draw: the box of the answer, the box of the request, its heads, the cursor. -/
def ReqT (w : World) (M : Nat) : Prop := ∃ cs fz, w.heap[M]? = some (.cells cs 39 fz)
theorem ReqT.of {w w' : World} {M : Nat} (h : ReqT w M) (hb : w'.heap[M]? = w.heap[M]?) : ReqT w' M := by obtain ⟨cs, fz, e⟩ := h; exact ⟨cs, fz, hb.trans e⟩
theorem ReqT.made (w : World) (cs : Array Value) : ReqT (w.alloc (.cells cs 39)) w.heap.size := ⟨cs, _, heap_alloc_new w _⟩
theorem ReqT.set {w : World} {M : Nat} (h : ReqT w M) (b o : Nat) (u : Value) : ReqT (w.setCell ⟨b, o, none⟩ u) M := by
  by_cases e : b = M
  · subst e
    obtain ⟨cs, fz, e⟩ := h
    rw [setCell_eq_setRow w b o cs _ fz u e]
    exact ⟨_, fz, setRow_heap w b cs _ _ fz e⟩
  · exact h.of (heap_setCell_other w _ M u (fun e' => e e'.symm))
theorem ReqT.other {w : World} {M B g n c : Nat} {xs : List Value} (h : ReqT w M) (ho : w.ownsRow B 82 2 (.slice (some ⟨g, 0, none⟩) n c) n xs) : g ≠ M := by
  rintro rfl
  obtain ⟨cs, fz, e⟩ := h
  rcases ho.2 with ⟨h0, _⟩ | ⟨g', cap', cur, hv, _, hr, _⟩
  · cases h0
  · cases hv
    rw [hr] at e
    injection e with e
    injection e with _ e2
    exact absurd e2 (by decide)

structure Mid (w w1 : World) (N : Nat) (a : Option Addr) (len cap : Nat) (zs : List Int) (M g c : Nat) (r : Rq) : Prop where
  ret : Ret4 w1 w.heap.size
  box : RBox w1 M (.string r.m) (.string r.p) (.slice (some ⟨g, 0, none⟩) r.hs.length c) (.string r.b)
  dx : DX w1 N a len cap zs
  gr : w.grownBy w1 (some N)
  own : w1.ownsRow w.heap.size 82 2 (.slice (some ⟨g, 0, none⟩) r.hs.length c) r.hs.length (hdCells r.hs)
  hN : N < w.heap.size
  hM : w.heap.size < M
  hgM : g ≠ M
  hg0 : g ≠ w.heap.size
  tM : ReqT w1 M
  tR : ReqT w1 w.heap.size

theorem Mid.grown {w w1 w2 : World} {N : Nat} {a : Option Addr} {len cap : Nat} {zs : List Int} {M g c : Nat} {r : Rq} (h : Mid w w1 N a len cap zs M g c r) (hg : w1.grownBy w2 (some N)) (hd : DX w2 N a len cap zs) : Mid w w2 N a len cap zs M g c r :=
  ⟨h.ret.grown hg h.hN, h.box.grown hg (by have := h.hN; have := h.hM; omega), hd, grown_trans h.gr hg, ownsH_grown h.own hg h.hN, h.hN, h.hM, h.hgM, h.hg0, h.tM.of (hg.block M h.box.1 (by simp; have := h.hN; have := h.hM; omega)), h.tR.of (hg.block _ h.ret.1 (by simp; have := h.hN; omega))⟩
theorem Ret4.of {w w' : World} {M : Nat} (h : Ret4 w M) (hs : w.heap.size ≤ w'.heap.size) (hb : w'.heap[M]? = w.heap[M]?) : Ret4 w' M := by
  have hc : ∀ o, w'.cell? ⟨M, o, none⟩ = w.cell? ⟨M, o, none⟩ := fun o => World.cell?_of_block (a := ⟨M, o, none⟩) hb
  have hf : ∀ o, w'.frozen? ⟨M, o, none⟩ = w.frozen? ⟨M, o, none⟩ := fun o => World.frozen?_of_block (a := ⟨M, o, none⟩) hb
  obtain ⟨h0, h1, h2, h3, h4, h5, h6, h7, h8⟩ := h
  exact ⟨Nat.lt_of_lt_of_le h0 hs, by rw [hc]; exact h1, by rw [hc]; exact h2, by rw [hc]; exact h3, by rw [hc]; exact h4, by rw [hf]; exact h5, by rw [hf]; exact h6, by rw [hf]; exact h7, by rw [hf]; exact h8⟩
/-- A store into the request's box. -/
theorem Mid.store {w w1 : World} {N : Nat} {a : Option Addr} {len cap : Nat} {zs : List Int} {M g c g' c' o : Nat} {r r' : Rq} {u : Value} (h : Mid w w1 N a len cap zs M g c r)
    (hb : RBox (w1.setCell ⟨M, o, none⟩ u) M (.string r'.m) (.string r'.p) (.slice (some ⟨g', 0, none⟩) r'.hs.length c') (.string r'.b))
    (ho : (w1.setCell ⟨M, o, none⟩ u).ownsRow w.heap.size 82 2 (.slice (some ⟨g', 0, none⟩) r'.hs.length c') r'.hs.length (hdCells r'.hs)) (hg : g' ≠ M) (hg0 : g' ≠ w.heap.size) : Mid w (w1.setCell ⟨M, o, none⟩ u) N a len cap zs M g' c' r' :=
  ⟨h.ret.of (by simp) (heap_setCell_other _ _ _ _ (by show w.heap.size ≠ M; have := h.hM; omega)), hb, h.dx.set4 (by show N < M; have := h.hN; have := h.hM; omega), grown_past h.gr ((Below.refl _ _).setCell (by show w.heap.size ≤ M; have := h.hM; omega) _), ho, h.hN, h.hM, hg, hg0, h.tM.set _ _ _, h.tR.set _ _ _⟩

theorem Mid.alloc {w w1 : World} {N : Nat} {a : Option Addr} {len cap : Nat} {zs : List Int} {M g c : Nat} {r : Rq} (h : Mid w w1 N a len cap zs M g c r) (o : Obj) : Mid w (w1.alloc o) N a len cap zs M g c r :=
  ⟨h.ret.of (by simp) (((Below.refl w1.heap.size w1).alloc (Nat.le_refl _) o).block _ h.ret.1), h.box.of (by simp) (((Below.refl w1.heap.size w1).alloc (Nat.le_refl _) o).block _ h.box.1), h.dx.alloc o, grown_alloc h.gr o, h.own.alloc o, h.hN, h.hM, h.hgM, h.hg0, h.tM.of (((Below.refl w1.heap.size w1).alloc (Nat.le_refl _) o).block _ h.box.1), h.tR.of (((Below.refl w1.heap.size w1).alloc (Nat.le_refl _) o).block _ h.ret.1)⟩

/-- The end of such a draw. -/
theorem Mid.fin {w w1 : World} {N : Nat} {a : Option Addr} {len cap : Nat} {zs : List Int} {M g c : Nat} {r : Rq} (h : Mid w w1 N a len cap zs M g c r) (hs : SmallR r) (u0 u1 u2 u3 : Value) :
    AnyR ((((w1.setCell ⟨w.heap.size, 0, none⟩ u0).setCell ⟨w.heap.size, 1, none⟩ u1).setCell ⟨w.heap.size, 2, none⟩ u2).setCell ⟨w.heap.size, 3, none⟩ u3) w.heap.size (.returned (.agg #[.string r.m, .string r.p, .slice (some ⟨g, 0, none⟩) r.hs.length c, .string r.b])) ∧ DX ((((w1.setCell ⟨w.heap.size, 0, none⟩ u0).setCell ⟨w.heap.size, 1, none⟩ u1).setCell ⟨w.heap.size, 2, none⟩ u2).setCell ⟨w.heap.size, 3, none⟩ u3) N a len cap zs ∧ w.grownBy ((((w1.setCell ⟨w.heap.size, 0, none⟩ u0).setCell ⟨w.heap.size, 1, none⟩ u1).setCell ⟨w.heap.size, 2, none⟩ u2).setCell ⟨w.heap.size, 3, none⟩ u3) (some N) := by
  have hN := h.hN
  have h0 : (w.heap.size : Nat) ≠ g := fun e => h.hg0 e.symm
  refine ⟨⟨r, g, c, hs, rfl, ?_⟩, ?_, grown_past h.gr (below_sets (Nat.le_refl _) _ _ _ _)⟩
  · exact ownsH_set (ownsH_set (ownsH_set (ownsH_set h.own h0) h0) h0) h0
  · exact (((h.dx.set4 hN).set4 hN).set4 hN).set4 hN

theorem info_u8d : (Tryz.prog.info? 5).map (fun i => (i.zero, i.size, i.bytes)) = some (some (.int .u8 0), 1, 1) := by kernel_rfl
/-- 'string(make([]byte, n))': some text of that length. -/
theorem conv_zeros (w : World) (n : Nat) : ∃ x : ByteArray, x.size = n ∧ (convert 22 9 (.slice (some ⟨w.heap.size, 0, none⟩) n n)).run Tryz.prog (w.alloc (.cells (madeCells #[.int .u8 0] n) 5)) = .ok (.string x) (w.alloc (.cells (madeCells #[.int .u8 0] n) 5)) := by
  refine ⟨⟨(List.replicate n 0).toArray⟩, by show (List.replicate n (0 : UInt8)).toArray.size = n; simp, ?_⟩
  have h := run_convert_bytes_back (P := Tryz.prog) (w.alloc (.cells (madeCells #[.int .u8 0] n) 5)) 22 9 5 ⟨w.heap.size, 0, none⟩ n (List.replicate n 0) Tryz.underlying22 Tryz.underlying5 Tryz.underlying9 (by
    intro j hj
    have hj' : j < n := by simpa using hj
    have e : (⟨w.heap.size, 0, none⟩ : Addr).add j = ⟨w.heap.size, j, none⟩ := by unfold Addr.add; split <;> simp_all
    rw [e, (World.rowIs_made w (.int .u8 0) n 5).cell hj']
    simp)
  rw [List.length_replicate] at h
  exact h

theorem Mid.drew {w w1 : World} {N : Nat} {a : Option Addr} {len cap : Nat} {zs : List Int} {M g c : Nat} {r : Rq} (h : Mid w w1 N a len cap zs M g c r) : Mid w w1.drew N a len cap zs M g c r :=
  ⟨h.ret, h.box, h.dx.other (Nat.le_refl _) (fun _ _ => rfl), ⟨h.gr.os, h.gr.tape, h.gr.output, h.gr.size, h.gr.block⟩, h.own, h.hN, h.hM, h.hgM, h.hg0, h.tM, h.tR⟩

theorem Mid.str {w W : World} {N : Nat} {a : Option Addr} {len cap : Nat} {zs : List Int} {M g c : Nat} {r : Rq} (h : Mid w W N a len cap zs M g c r) (ss : List ByteArray) (n b : Nat) (hb : N < b) (h0 : 0 < n) (h1 : n ≤ 256) (hz : ∀ s ∈ ss, s.size ≤ 20)
    (hls : ∀ j, j < n → W.cell? ⟨b, j, none⟩ = some (.string (ss.getD j ByteArray.empty))) :
    Calls Tryz.prog 63 #[.pointer (some ⟨N, 0, none⟩), .slice (some ⟨b, 0, none⟩) n n] W fun e w' => (∃ s : ByteArray, e = .returned (.string s) ∧ s.size ≤ 20) ∧ Mid w w' N a len cap zs M g c r ∧ W.grownBy w' (some N) := by
  obtain ⟨cu, hd⟩ := h.dx
  refine (l1Str_any N b a len cap n zs ss cu W hd.cur hd.code hd.bN hd.hlen h0 h1 (by omega) hls).mono ?_
  rintro e w1 ⟨rfl, hc1, hg1⟩
  exact ⟨⟨_, rfl, getD_mem ss _ _ (fun s => s.size ≤ 20) hz (by decide)⟩, h.grown hg1 ⟨_, hd.grown hg1 hc1⟩, hg1⟩

theorem ints3 {W : World} {b : Nat} {x0 x1 x2 : Int} (h0 : W.cell? ⟨b, 0, none⟩ = some (.int .i64 x0)) (h1 : W.cell? ⟨b, 1, none⟩ = some (.int .i64 x1)) (h2 : W.cell? ⟨b, 2, none⟩ = some (.int .i64 x2)) :
    ∀ j, j < 3 → W.cell? ⟨b, j, none⟩ = some (.int .i64 ([x0, x1, x2].getD j 0))
  | 0, _ => h0
  | 1, _ => h1
  | 2, _ => h2
  | _ + 3, h => absurd h (by omega)
theorem Mid.int {w W : World} {N : Nat} {a : Option Addr} {len cap : Nat} {zs : List Int} {M g c : Nat} {r : Rq} (h : Mid w W N a len cap zs M g c r) (ls : List Int) (n b : Nat) (hb : N < b) (h0 : 0 < n) (h1 : n ≤ 256) (hz : ∀ s ∈ ls, 0 ≤ s ∧ s ≤ 60)
    (hls : ∀ j, j < n → W.cell? ⟨b, j, none⟩ = some (.int .i64 (ls.getD j 0))) :
    Calls Tryz.prog 48 #[.pointer (some ⟨N, 0, none⟩), .slice (some ⟨b, 0, none⟩) n n] W fun e w' => (∃ k : Nat, e = .returned (.int .i64 k) ∧ k ≤ 60) ∧ Mid w w' N a len cap zs M g c r ∧ W.grownBy w' (some N) := by
  obtain ⟨cu, hd⟩ := h.dx
  refine (l1Int_any N b a len cap n zs ls cu W hd.cur hd.code hd.bN hd.hlen h0 h1 (by omega) hls).mono ?_
  rintro e w1 ⟨rfl, hc1, hg1⟩
  have hq : 0 ≤ ls.getD (pick zs len cu n) 0 ∧ ls.getD (pick zs len cu n) 0 ≤ 60 := getD_mem ls _ _ (fun s => 0 ≤ s ∧ s ≤ 60) hz (by decide)
  exact ⟨⟨(ls.getD (pick zs len cu n) 0).toNat, by rw [Int.toNat_of_nonneg hq.1], by omega⟩, h.grown hg1 ⟨_, hd.grown hg1 hc1⟩, hg1⟩
theorem Mid.less {w W : World} {N : Nat} {a : Option Addr} {len cap : Nat} {zs : List Int} {M g c : Nat} {r : Rq} (h : Mid w W N a len cap zs M g c r) (n : Int) (hn : 0 < n) (hn2 : n ≤ 1000000) :
    Calls Tryz.prog 46 #[.pointer (some ⟨N, 0, none⟩), .int .i64 n] W fun e w' => (∃ k : Nat, e = .returned (.int .i64 k) ∧ (k : Int) < n) ∧ Mid w w' N a len cap zs M g c r := by
  refine (l1BelowX h.dx n hn hn2).mono ?_
  rintro e w1 ⟨hk, hd, hg⟩
  exact ⟨hk, h.grown hg hd⟩

/-- One head more. -/
theorem Mid.pushed {w W w5 : World} {N : Nat} {a : Option Addr} {len cap : Nat} {zs : List Int} {M g c g' c' : Nat} {r : Rq} {h : Hd} (hm : Mid w W N a len cap zs M g c r)
    (ho : w5.ownsRow w.heap.size 82 2 (.slice (some ⟨g', 0, none⟩) (r.hs.length + 1) c') (r.hs.length + 1) (hdCells (r.hs ++ [h]))) (hg : W.grownBy w5 (some g)) :
    Mid w (w5.setCell ⟨M, 2, none⟩ (.slice (some ⟨g', 0, none⟩) (r.hs.length + 1) c')) N a len cap zs M g' c' ⟨r.m, r.p, r.hs ++ [h], r.b⟩ ∧ RBox w5 M (.string r.m) (.string r.p) (.slice (some ⟨g, 0, none⟩) r.hs.length c) (.string r.b) ∧ Ret4 w5 w.heap.size := by
  have hNM : N < M := Nat.lt_trans hm.hN hm.hM
  have hbM := hg.block M hm.box.1 (by simp; exact fun e => hm.hgM e.symm)
  have hbR := hg.block w.heap.size hm.ret.1 (by simp; exact fun e => hm.hg0 e.symm)
  have box5 := hm.box.of hg.size hbM
  have ret5 := hm.ret.of hg.size hbR
  have tM5 := hm.tM.of hbM
  have tR5 := hm.tR.of hbR
  have hgl := hm.own.lt g rfl
  have hgM' := tM5.other ho
  have hgR' := tR5.other ho
  have hMR : w.heap.size ≠ M := by have := hm.hM; omega
  have hlen : (r.hs ++ [h]).length = r.hs.length + 1 := by simp
  have dx5 : DX w5 N a len cap zs := hm.dx.other hg.size (fun k hk => hg.block k (by have := hm.dx.lt; omega) (by simp; have := hm.hN; omega))
  have bel : Below w.heap.size W w5 := ⟨hg.os, hg.tape, hg.output, hg.size, fun k hk => hg.block k (Nat.lt_of_lt_of_le hk hm.gr.size) (by simp; omega)⟩
  refine ⟨⟨ret5.of (by simp) (heap_setCell_other _ _ _ _ hMR), ?_, dx5.set4 hNM, grown_past hm.gr (bel.trans ((Below.refl _ _).setCell (by show w.heap.size ≤ M; have := hm.hM; omega) _)), ?_, hm.hN, hm.hM, hgM', hgR', tM5.set _ _ _, tR5.set _ _ _⟩, box5, ret5⟩
  · show RBox _ M (.string r.m) (.string r.p) (.slice (some ⟨g', 0, none⟩) (r.hs ++ [h]).length c') (.string r.b)
    rw [hlen]
    exact box5.set2 _
  · show (w5.setCell _ _).ownsRow w.heap.size 82 2 (.slice (some ⟨g', 0, none⟩) (r.hs ++ [h]).length c') (r.hs ++ [h]).length (hdCells (r.hs ++ [h]))
    rw [hlen]
    exact ownsH_set ho (fun e => hgM' e.symm)
end Go.Proofs.YtanebchmeaomgaaGreatDoor
