/-
  The draws of names and paths: whatever is drawn, it is a list of few short texts, in memory of its own.
-/
import Derived.Test.YtnioamheddedeaaDoorDrawC
import Derived.Test.YtnioamheddedeaaDoorOwnStrs
import Derived.Deep.AppendLies
namespace Go.Proofs.YtnioamheddedeaaDoor
open Go.RowKit M
set_option linter.unusedVariables false

/-- A cursor in block N, wherever it stands. -/
def DX (w : World) (N : Nat) (a : Option Addr) (len cap : Nat) (zs : List Int) : Prop := ∃ c, DC w N a len cap zs c

/-- Few short texts. -/
def Few (n : Nat) (ss : List ByteArray) : Prop := ss.length ≤ n ∧ ∀ s ∈ ss, s.size ≤ 20
theorem Few.snoc {n : Nat} {ss : List ByteArray} {s : ByteArray} (h : Few n ss) (hs : s.size ≤ 20) : Few (n + 1) (ss ++ [s]) := ⟨by have := h.1; simp; omega, fun x hx => by
  rcases List.mem_append.1 hx with hx | hx
  · exact h.2 x hx
  · simp at hx; subst hx; exact hs⟩
theorem Few.mono {n m : Nat} {ss : List ByteArray} (h : Few n ss) (hm : n ≤ m) : Few m ss := ⟨Nat.le_trans h.1 hm, h.2⟩
theorem Few.short {n : Nat} {ss : List ByteArray} (h : Few n ss) : Short ss := fun s hs => Nat.le_trans (h.2 s hs) (by decide)

def namesD : List ByteArray := [⟨#[97]⟩, ⟨#[98]⟩, ⟨#[99]⟩, ⟨#[97, 32, 98]⟩, ⟨#[120, 37, 121]⟩, ⟨#[97]⟩, ⟨#[98]⟩]
def oddD : List ByteArray := [⟨#[]⟩, ⟨#[46]⟩, ⟨#[46, 46]⟩, ⟨#[97, 47, 98]⟩, ⟨#[110, 105, 110, 101, 98, 121, 116, 101, 115]⟩, ⟨#[31]⟩, ⟨#[101, 105, 103, 104, 116, 98, 121, 56]⟩]

set_option maxHeartbeats 400000 in
theorem l2Name_any {w : World} {N : Nat} {a : Option Addr} {len cap : Nat} {zs : List Int} (h : DX w N a len cap zs) :
    Calls Tryd.prog 56 #[.pointer (some ⟨N, 0, none⟩)] w fun e w' => (∃ s : ByteArray, e = .returned (.string s) ∧ s.size ≤ 20) ∧ DX w' N a len cap zs ∧ w.grownBy w' (some N) := by
  obtain ⟨c, h⟩ := h
  have H : Hid (DC w N a len cap zs c) := h
  clear h
  go_enter Tryd.func56, Tryd.ntmps56
  go_wp2_with fail
  refine (strNew H.out namesD _ _ 7 _ rfl rfl rfl (by decide) (by decide)).mono ?_
  rintro e w1 ⟨rfl, hd1, hg1⟩
  go_wp2
  go_ret
  exact ⟨⟨_, rfl, getD_mem namesD _ _ (fun s => s.size ≤ 20) (by decide) (by decide)⟩, ⟨_, hd1⟩, hg1⟩

theorem DX.alloc {w : World} {N : Nat} {a : Option Addr} {len cap : Nat} {zs : List Int} (h : DX w N a len cap zs) (o : Obj) : DX (w.alloc o) N a len cap zs := by
  obtain ⟨c, h⟩ := h; exact ⟨c, h.alloc o⟩

theorem l1BelowX {w : World} {N : Nat} {a : Option Addr} {len cap : Nat} {zs : List Int} (h : DX w N a len cap zs) (n : Int) (hn : 0 < n) (hn2 : n ≤ 1000000) :
    Calls Tryd.prog 34 #[.pointer (some ⟨N, 0, none⟩), .int .i64 n] w fun e w' => (∃ k : Nat, e = .returned (.int .i64 k) ∧ (k : Int) < n) ∧ DX w' N a len cap zs ∧ w.grownBy w' (some N) := by
  obtain ⟨c, h⟩ := h
  refine (l1Below_any N a len cap zs c n w h.cur h.code h.bN h.hlen hn hn2).mono ?_
  rintro e w1 ⟨rfl, hc1, hg1⟩
  have hb := belowV_bd zs len c n hn
  exact ⟨⟨(belowV zs len c n).toNat, by rw [Int.toNat_of_nonneg hb.1], by rw [Int.toNat_of_nonneg hb.1]; exact hb.2⟩, ⟨_, h.grown hg1 hc1⟩, hg1⟩

/-- The cursor stands where another row of the call's own has grown. -/
theorem DX.other {w w' : World} {N : Nat} {a : Option Addr} {len cap : Nat} {zs : List Int} (h : DX w N a len cap zs) (hs : w.heap.size ≤ w'.heap.size) (hk : ∀ k, k ≤ N → w'.heap[k]? = w.heap[k]?) : DX w' N a len cap zs := by
  obtain ⟨c, h⟩ := h
  have hc : ∀ p : Addr, p.block ≤ N → w'.cell? p = w.cell? p := fun p hp => World.cell?_of_block (w := w) (hk p.block hp)
  have hf : ∀ p : Addr, p.block ≤ N → w'.frozen? p = w.frozen? p := fun p hp => World.frozen?_of_block (w := w) (hk p.block hp)
  refine ⟨c, ⟨⟨?_, ?_, ?_, ?_, ?_⟩, ?_, h.bN, h.hlen, Nat.lt_of_lt_of_le h.lt hs⟩⟩
  · rw [hc _ (Nat.le_refl _)]; exact h.cur.c0
  · rw [hc _ (Nat.le_refl _)]; exact h.cur.c1
  · rw [hc _ (Nat.le_refl _)]; exact h.cur.c2
  · rw [hf _ (Nat.le_refl _)]; exact h.cur.f1
  · rw [hf _ (Nat.le_refl _)]; exact h.cur.f2
  · refine ⟨h.code.le, h.code.bd, fun h0 => ?_⟩
    obtain ⟨b, off, e, hcc⟩ := h.code.at0 h0
    have hb := h.bN h0 b off e
    exact ⟨b, off, e, fun j hj => by rw [hc ⟨b, off + j, none⟩ (by show b ≤ N; omega)]; exact hcc j hj⟩

theorem grown_past {w w1 w2 : World} {r : Option Nat} (h : w.grownBy w1 r) (hb : Below w.heap.size w1 w2) : w.grownBy w2 r :=
  ⟨hb.os.trans h.os, hb.tape.trans h.tape, hb.output.trans h.output, Nat.le_trans h.size hb.size, fun k hk hne => (hb.block k hk).trans (h.block k hk hne)⟩

theorem owns_grown {w w' : World} {B N g n c : Nat} {xs : List Value} (h : w.ownsRow B 9 1 (.slice (some ⟨g, 0, none⟩) n c) n xs) (hg : w.grownBy w' (some N)) (hN : N < B) : w'.ownsRow B 9 1 (.slice (some ⟨g, 0, none⟩) n c) n xs :=
  h.kept hg (.inr (by have := (h.lt g rfl).1; simp [Value.ownBlock]; omega))

theorem strNewX {w : World} {N : Nat} {a : Option Addr} {len cap : Nat} {zs : List Int} (h : DX w N a len cap zs) (ss : List ByteArray) (C : Array Value) (T : TypeId) (n M : Nat) (hM : M = w.heap.size) (hC : C = (ss.map Value.string).toArray) (hn : ss.length = n) (h0 : 0 < n) (h1 : n ≤ 256) (hz : ∀ s ∈ ss, s.size ≤ 20) :
    Calls Tryd.prog 35 #[.pointer (some ⟨N, 0, none⟩), .slice (some ⟨M, 0, none⟩) n n] (w.alloc (.cells C T)) fun e w' => (∃ s : ByteArray, e = .returned (.string s) ∧ s.size ≤ 20) ∧ DX w' N a len cap zs ∧ w.grownBy w' (some N) := by
  obtain ⟨c, h⟩ := h
  refine (strNew h ss C T n M hM hC hn h0 h1).mono ?_
  rintro e w1 ⟨rfl, hd, hg⟩
  exact ⟨⟨_, rfl, getD_mem ss _ _ (fun s => s.size ≤ 20) hz (by decide)⟩, ⟨_, hd⟩, hg⟩

theorem DX.lt {w : World} {N : Nat} {a : Option Addr} {len cap : Nat} {zs : List Int} (h : DX w N a len cap zs) : N < w.heap.size := by obtain ⟨c, h⟩ := h; exact h.lt

set_option maxHeartbeats 2000000 in
theorem l2Draw_any {w : World} {N : Nat} {a : Option Addr} {len cap : Nat} {zs : List Int} (h : DX w N a len cap zs) :
    Calls Tryd.prog 33 #[.pointer (some ⟨N, 0, none⟩)] w fun e w' => (∃ (ss : List ByteArray) (n g c : Nat), Few 3 ss ∧ n = ss.length ∧ e = .returned (.slice (some ⟨g, 0, none⟩) n c) ∧ w'.ownsRow w.heap.size 9 1 (.slice (some ⟨g, 0, none⟩) n c) n (strCells ss)) ∧ DX w' N a len cap zs ∧ w.grownBy w' (some N) := by
  have hlt := h.lt
  have H : Hid (DX w N a len cap zs) := h
  clear h
  go_enter Tryd.func33, Tryd.ntmps33
  go_wp2_with fail
  refine (l1BelowX (H.out.alloc _) 4 (by decide) (by decide)).mono ?_
  rintro e w1 ⟨⟨k0, rfl, hk0⟩, hd1, hg1⟩
  have hgw : w.grownBy w1 (some N) := grown_trans (grown_alloc (grown_refl _ _) _) hg1
  have hown0 : w1.ownsRow w.heap.size 9 1 (.slice (some ⟨w.heap.size, 0, none⟩) 0 0) 0 (strCells []) := owns_grown (World.ownsRow_made w #[] 0 (Nat.le_refl _) (by decide) rfl) hg1 hlt
  have HD : Hid (DX w1 N a len cap zs) := hd1
  have HG : Hid (w.grownBy w1 (some N)) := hgw
  clear hg1 hgw hd1
  go_wp2
  go_loopw [3, 4] (fun v i wr => ∃ (k : Nat) (ss : List ByteArray) (n g c : Nat), i = .int .i64 k ∧ v = .slice (some ⟨g, 0, none⟩) n c ∧ n = ss.length ∧ n + k ≤ 3 ∧ Few n ss ∧ wr.ownsRow w.heap.size 9 1 (.slice (some ⟨g, 0, none⟩) n c) n (strCells ss) ∧ DX wr N a len cap zs ∧ w.grownBy wr (some N)) (fun _ i _ => (intOf i).toNat)
  case atStart => exact ⟨k0, [], 0, w.heap.size, 0, rfl, rfl, rfl, by omega, ⟨Nat.le_refl _, fun _ h => by cases h⟩, hown0, HD.out, HG.out⟩
  case round =>
    obtain ⟨k, ss, n, g, c, rfl, rfl, hn, hnk, hf, hown, hd, hg⟩ := hrel
    have HN : Hid (n = ss.length) := hn
    have HF : Hid (Few n ss) := hf
    have HD2 : Hid (DX wr N a len cap zs) := hd
    have HG2 : Hid (w.grownBy wr (some N)) := hg
    clear hn hf hd hg hown0
    by_cases h0 : 0 < k
    · have h0' : (0 : Int) < k := by omega
      go_wp2_with fail
      refine (l2Name_any HD2.out).mono ?_
      rintro e w2 ⟨⟨x, rfl, hx⟩, hd2, hg2⟩
      have hown2 := owns_grown hown hg2 hlt
      have HG3 : Hid (w.grownBy w2 (some N)) := grown_trans HG2.out hg2
      have HD3 : Hid (DX w2 N a len cap zs) := hd2
      clear hd2 hg2
      have hsz := HG3.out.size
      go_wp2_with (at_builtin; refine wp_append_str rfl _ _ rfl w.heap.size _ n ss rfl (hown2.alloc _) _ x rfl ?c1 ?c2 ?c3 ?_)
      case c1 => simp
      case c2 => omega
      case c3 => simp; omega
      intro g1 cap1 w3 ho3 hb3
      have HD4 : Hid (DX w3 N a len cap zs) := (HD3.out.alloc _).other hb3.size (fun k hk => hb3.block k (by omega))
      have HG4 : Hid (w.grownBy w3 (some N)) := grown_past (grown_alloc HG3.out _) hb3
      go_wp2
      go_roundw
      case rel => exact ⟨k - 1, ss ++ [x], n + 1, g1, cap1, by first | go_num | (congr 1; omega), rfl, by rw [List.length_append, ← HN.out]; rfl, by omega, HF.out.snoc hx, ho3, HD4.out, HG4.out⟩
      case measure => simp [intOf]; omega
    · have hk : k = 0 := by omega
      subst hk
      go_wp2
      go_ret
      exact ⟨⟨ss, n, g, c, HF.out.mono (by omega), HN.out, rfl, hown⟩, HD2.out, HG2.out⟩
end Go.Proofs.YtnioamheddedeaaDoor
