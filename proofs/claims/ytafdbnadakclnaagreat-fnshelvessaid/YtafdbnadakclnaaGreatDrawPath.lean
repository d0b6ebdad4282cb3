/-
  The draws of names and paths: whatever is drawn, it is a list of few short texts, in memory of its own.
-/
import Derived.Test.YtafdbnadakclnaaGreatKinds
import Derived.Test.YtafdbnadakclnaaGreatOwnStrs
import Derived.Deep.AppendLies
namespace Go.Proofs.YtafdbnadakclnaaGreat
open Go.RowKit M
set_option linter.unusedVariables false

/-- Few short texts. -/
def Few (n : Nat) (ss : List ByteArray) : Prop := ss.length ≤ n ∧ ∀ s ∈ ss, s.size ≤ 20
theorem Few.snoc {n : Nat} {ss : List ByteArray} {s : ByteArray} (h : Few n ss) (hs : s.size ≤ 20) : Few (n + 1) (ss ++ [s]) := ⟨by have := h.1; simp; omega, fun x hx => by
  rcases List.mem_append.1 hx with hx | hx
  · exact h.2 x hx
  · simp at hx; subst hx; exact hs⟩
theorem Few.mono {n m : Nat} {ss : List ByteArray} (h : Few n ss) (hm : n ≤ m) : Few m ss := ⟨Nat.le_trans h.1 hm, h.2⟩
theorem Few.short {n : Nat} {ss : List ByteArray} (h : Few n ss) : Short ss := fun s hs => Nat.le_trans (h.2 s hs) (by decide)

def namesD : List ByteArray := [⟨#[97]⟩, ⟨#[98]⟩, ⟨#[99]⟩, ⟨#[97, 32, 98]⟩, ⟨#[120, 37, 121]⟩, ⟨#[97]⟩, ⟨#[98]⟩]
def oddD : List ByteArray := [⟨#[]⟩, ⟨#[46]⟩, ⟨#[46, 46]⟩, ⟨#[97, 47, 98]⟩, ⟨#[110, 105, 110, 101, 98, 121, 116, 101, 115]⟩, ⟨#[31]⟩, ⟨#[101, 105, 103, 104, 116, 98, 121, 56]⟩]

set_option maxHeartbeats 400000 in
theorem l2Name_any {w : World} {N : Nat} {a : Option Addr} {len cap : Nat} {zs : List Int} (h : DX w N a len cap zs) :
    Calls Tryz.prog 99 #[.pointer (some ⟨N, 0, none⟩)] w fun e w' => (∃ s : ByteArray, e = .returned (.string s) ∧ s.size ≤ 20) ∧ DX w' N a len cap zs ∧ w.grownBy w' (some N) := by
  obtain ⟨c, h⟩ := h
  have H : Hid (DC w N a len cap zs c) := h
  clear h
  go_enter Tryz.func99, Tryz.ntmps99
  go_wp2_with fail
  refine (strNew H.out namesD _ _ 7 _ rfl rfl rfl (by decide) (by decide)).mono ?_
  rintro e w1 ⟨rfl, hd1, hg1⟩
  go_wp2
  go_ret
  exact ⟨⟨_, rfl, getD_mem namesD _ _ (fun s => s.size ≤ 20) (by decide) (by decide)⟩, ⟨_, hd1⟩, hg1⟩

theorem owns_grown {w w' : World} {B N g n c : Nat} {xs : List Value} (h : w.ownsRow B 9 1 (.slice (some ⟨g, 0, none⟩) n c) n xs) (hg : w.grownBy w' (some N)) (hN : N < B) : w'.ownsRow B 9 1 (.slice (some ⟨g, 0, none⟩) n c) n xs :=
  h.kept hg (.inr (by have := (h.lt g rfl).1; simp [Value.ownBlock]; omega))


set_option maxHeartbeats 2000000 in
theorem l2Draw_any {w : World} {N : Nat} {a : Option Addr} {len cap : Nat} {zs : List Int} (h : DX w N a len cap zs) :
    Calls Tryz.prog 100 #[.pointer (some ⟨N, 0, none⟩)] w fun e w' => (∃ (ss : List ByteArray) (n g c : Nat), Few 3 ss ∧ n = ss.length ∧ e = .returned (.slice (some ⟨g, 0, none⟩) n c) ∧ w'.ownsRow w.heap.size 9 1 (.slice (some ⟨g, 0, none⟩) n c) n (strCells ss)) ∧ DX w' N a len cap zs ∧ w.grownBy w' (some N) := by
  have hlt := h.lt
  have H : Hid (DX w N a len cap zs) := h
  clear h
  go_enter Tryz.func100, Tryz.ntmps100
  go_wp2_with fail
  refine (l1BelowX (H.out.alloc _) 4 (by decide) (by decide)).mono ?_
  rintro e w1 ⟨⟨k0, rfl, hk0⟩, hd1, hg1⟩
  have hgw : w.grownBy w1 (some N) := grown_trans (grown_alloc (grown_refl _ _) _) hg1
  have hown0 : w1.ownsRow w.heap.size 9 1 (.slice (some ⟨w.heap.size, 0, none⟩) 0 0) 0 (strCells []) := owns_grown (World.ownsRow_made w #[] 0 (Nat.le_refl _) (by decide) rfl) hg1 hlt
  have HD : Hid (DX w1 N a len cap zs) := hd1
  have HG : Hid (w.grownBy w1 (some N)) := hgw
  clear hg1 hgw hd1
  go_wp2
  go_loopw [3, 4] (fun v i wr => ∃ (k : Nat) (ss : List ByteArray) (n g c : Nat), i = .int .i64 k ∧ v = .slice (some ⟨g, 0, none⟩) n c ∧ n = ss.length ∧ n + k ≤ 3 ∧ Few n ss ∧ wr.ownsRow w.heap.size 9 1 (.slice (some ⟨g, 0, none⟩) n c) n (strCells ss) ∧ DX wr N a len cap zs ∧ w.grownBy wr (some N)) (fun _ i _ => (intOf i).toNat)
  case atStart => exact ⟨k0, [], 0, w.heap.size, 0, rfl, rfl, rfl, by omega, ⟨Nat.le_refl _, fun _ h => by cases h⟩, hown0, HD.out, HG.out⟩
  case round =>
    obtain ⟨k, ss, n, g, c, rfl, rfl, hn, hnk, hf, hown, hd, hg⟩ := hrel
    have HN : Hid (n = ss.length) := hn
    have HF : Hid (Few n ss) := hf
    have HD2 : Hid (DX wr N a len cap zs) := hd
    have HG2 : Hid (w.grownBy wr (some N)) := hg
    clear hn hf hd hg hown0
    by_cases h0 : 0 < k
    · have h0' : (0 : Int) < k := by omega
      go_wp2_with fail
      refine (l2Name_any HD2.out).mono ?_
      rintro e w2 ⟨⟨x, rfl, hx⟩, hd2, hg2⟩
      have hown2 := owns_grown hown hg2 hlt
      have HG3 : Hid (w.grownBy w2 (some N)) := grown_trans HG2.out hg2
      have HD3 : Hid (DX w2 N a len cap zs) := hd2
      clear hd2 hg2
      have hsz := HG3.out.size
      go_wp2_with (at_builtin; refine wp_append_str rfl _ _ rfl w.heap.size _ n ss rfl (hown2.alloc _) _ x rfl ?c1 ?c2 ?c3 ?_)
      case c1 => simp
      case c2 => omega
      case c3 => simp; omega
      intro g1 cap1 w3 ho3 hb3
      have HD4 : Hid (DX w3 N a len cap zs) := (HD3.out.alloc _).other hb3.size (fun k hk => hb3.block k (by omega))
      have HG4 : Hid (w.grownBy w3 (some N)) := grown_past (grown_alloc HG3.out _) hb3
      go_wp2
      go_roundw
      case rel => exact ⟨k - 1, ss ++ [x], n + 1, g1, cap1, by first | go_num | (congr 1; omega), rfl, by rw [List.length_append, ← HN.out]; rfl, by omega, HF.out.snoc hx, ho3, HD4.out, HG4.out⟩
      case measure => simp [intOf]; omega
    · have hk : k = 0 := by omega
      subst hk
      go_wp2
      go_ret
      exact ⟨⟨ss, n, g, c, HF.out.mono (by omega), HN.out, rfl, hown⟩, HD2.out, HG2.out⟩
end Go.Proofs.YtafdbnadakclnaaGreat
