/-
  What is drawn of what is known: one, and a right list of them.
-/
import Derived.Test.YtkgdmlfdlkmojaaDrawX
import Derived.Test.YtkgdmlfdlkmojaaDrawO
import Derived.Test.YtkgdmlfdlkmojaaSpecSetProps
import Derived.Test.YtkgdmlfdlkmojaaMathSmallP
namespace Go.Proofs.Ytkgdmlfdlkmojaa
open Go.RowKit M
set_option linter.unusedVariables false

theorem strNewQ {w : World} {N : Nat} {a : Option Addr} {len cap : Nat} {zs : List Int} (h : DX w N a len cap zs) (z : Nat) (ss : List ByteArray) (C : Array Value) (T : TypeId) (n M : Nat) (hM : M = w.heap.size) (hC : C = (ss.map Value.string).toArray) (hn : ss.length = n) (h0 : 0 < n) (h1 : n ≤ 256) (hz : ∀ s ∈ ss, s.size ≤ z) :
    Calls Try.prog 45 #[.pointer (some ⟨N, 0, none⟩), .slice (some ⟨M, 0, none⟩) n n] (w.alloc (.cells C T)) fun e w' => (∃ s : ByteArray, e = .returned (.string s) ∧ s.size ≤ z) ∧ DX w' N a len cap zs ∧ w.grownBy w' (some N) := by
  obtain ⟨c, h⟩ := h
  refine (strNew h ss C T n M hM hC hn h0 h1).mono ?_
  rintro e w1 ⟨rfl, hd, hg⟩
  exact ⟨⟨_, rfl, getD_mem ss _ _ (fun s => s.size ≤ z) hz (Nat.zero_le _)⟩, ⟨_, hd⟩, hg⟩
theorem l1OnceQ {w : World} {N : Nat} {a : Option Addr} {len cap : Nat} {zs : List Int} (h : DX w N a len cap zs) (n : Int) (hn : 0 < n) (hn2 : n ≤ 1000000) :
    Calls Try.prog 68 #[.pointer (some ⟨N, 0, none⟩), .int .i64 n] w fun e w' => (∃ b : Bool, e = .returned (.bool b)) ∧ DX w' N a len cap zs ∧ w.grownBy w' (some N) := by
  obtain ⟨c, h⟩ := h
  refine (l1Once_any N a len cap zs c n w h.cur h.code h.bN h.hlen hn hn2).mono ?_
  rintro e w1 ⟨rfl, hc1, hg1⟩
  exact ⟨⟨_, rfl⟩, ⟨_, h.grown hg1 hc1⟩, hg1⟩
theorem DX.set {w : World} {N b k : Nat} {a : Option Addr} {len cap : Nat} {zs : List Int} (h : DX w N a len cap zs) (v : Value) (hb : N < b) : DX (w.setCell ⟨b, k, none⟩ v) N a len cap zs :=
  h.other (by simp) (fun i hi => Below.heap_setCell _ _ _ _ (by show i ≠ b; omega))
theorem DX.below {w w' : World} {N : Nat} {a : Option Addr} {len cap : Nat} {zs : List Int} (h : DX w N a len cap zs) (hb : Below w.heap.size w w') : DX w' N a len cap zs :=
  h.other hb.size (fun i hi => hb.block i (by have := h.lt; omega))
theorem grown_setQ {a b : World} {N k : Nat} {p : Nat} (h : a.grownBy b (some N)) (v : Value) (hp : a.heap.size ≤ p) : a.grownBy (b.setCell ⟨p, k, none⟩ v) (some N) :=
  ⟨h.os, h.tape, h.output, by simpa using h.size, fun i hi hne => (Below.heap_setCell _ _ _ _ (by show i ≠ p; omega)).trans (h.block i hi hne)⟩
theorem grown_belowQ {a b c : World} {N B : Nat} (h : a.grownBy b (some N)) (hb : Below B b c) (hB : a.heap.size ≤ B) : a.grownBy c (some N) :=
  ⟨hb.os.trans h.os, hb.tape.trans h.tape, hb.output.trans h.output, Nat.le_trans h.size hb.size, fun i hi hne => (hb.block i (by omega)).trans (h.block i hi hne)⟩

/-- Three cells of a box. -/
structure B3 (w : World) (b : Nat) (v0 v1 v2 : Value) : Prop where
  lt : b < w.heap.size
  c0 : w.cell? ⟨b, 0, none⟩ = some v0
  c1 : w.cell? ⟨b, 1, none⟩ = some v1
  c2 : w.cell? ⟨b, 2, none⟩ = some v2
  fz : ∀ k, w.frozen? ⟨b, k, none⟩ = false
theorem B3.of {w w' : World} {b : Nat} {v0 v1 v2 : Value} (h : B3 w b v0 v1 v2) (hs : w.heap.size ≤ w'.heap.size) (hb : w'.heap[b]? = w.heap[b]?) : B3 w' b v0 v1 v2 :=
  ⟨Nat.lt_of_lt_of_le h.lt hs, (World.cell?_of_block (a := ⟨b, 0, none⟩) hb).trans h.c0, (World.cell?_of_block (a := ⟨b, 1, none⟩) hb).trans h.c1, (World.cell?_of_block (a := ⟨b, 2, none⟩) hb).trans h.c2, fun k => by have := h.fz k; simp only [World.frozen?, hb] at this ⊢; exact this⟩
theorem B3.grown {w w' : World} {b N : Nat} {v0 v1 v2 : Value} (h : B3 w b v0 v1 v2) (hg : w.grownBy w' (some N)) (hN : b ≠ N) : B3 w' b v0 v1 v2 :=
  h.of hg.size (hg.block b h.lt (by simpa using hN))
theorem B3.made (w : World) (v0 v1 v2 : Value) (T : TypeId) : B3 (w.alloc (Obj.cells #[v0, v1, v2] T)) w.heap.size v0 v1 v2 :=
  ⟨by simp, by simp, by simp, by simp, fun k => World.frozen?_alloc_new w _ _ k⟩

def nsQ : List ByteArray := [⟨#[68, 65, 86, 58]⟩, ⟨#[117, 58, 120]⟩, ⟨#[]⟩]
def nmQ : List ByteArray := [⟨#[97]⟩, ⟨#[99, 111, 108, 111, 114]⟩, ⟨#[98]⟩]
def vlQ : List ByteArray := [⟨#[]⟩, ⟨#[114, 101, 100]⟩, ⟨#[97, 60, 98]⟩]
/-- Short in all its parts. -/
def FewP (p : Pp) : Prop := p.1.size ≤ 30 ∧ p.2.1.size ≤ 30 ∧ p.2.2.size ≤ 30

set_option maxRecDepth 100000 in
set_option maxHeartbeats 4000000 in
theorem l10OneProp_any {w : World} {N : Nat} {a : Option Addr} {len cap : Nat} {zs : List Int} (h : DX w N a len cap zs) :
    Calls Try.prog 80 #[.pointer (some ⟨N, 0, none⟩)] w fun e w' => (∃ p : Pp, e = .returned (.agg #[.string p.1, .string p.2.1, .string p.2.2]) ∧ FewP p) ∧ DX w' N a len cap zs ∧ w.grownBy w' (some N) := by
  have hNl := h.lt
  have DA := hide (h.alloc (Obj.cells #[Value.string { data := #[] }, Value.string { data := #[] }, Value.string { data := #[] }] 36))
  have BR := hide (B3.made w (.string ⟨#[]⟩) (.string ⟨#[]⟩) (.string ⟨#[]⟩) 36)
  have GA := hide (grown_alloc (grown_refl w (some N)) (Obj.cells #[Value.string { data := #[] }, Value.string { data := #[] }, Value.string { data := #[] }] 36))
  obtain ⟨wA, hwA⟩ : ∃ wA, w.alloc (Obj.cells #[Value.string { data := #[] }, Value.string { data := #[] }, Value.string { data := #[] }] 36) = wA := ⟨_, rfl⟩
  rw [hwA] at DA BR GA
  clear h
  go_enter Try.func80, Try.ntmps80
  go_wp2_with fail
  refine (strNewQ DA.out 30 nsQ _ _ 3 _ rfl rfl rfl (by decide) (by decide) (by decide)).mono ?_
  rintro e w1 ⟨⟨s1, rfl, hs1⟩, dx1, g1⟩
  have D1 := hide dx1
  have G1 := hide (grown_trans GA.out g1)
  have BR1 := hide (BR.out.grown g1 (by omega))
  clear dx1 g1 hwA DA GA BR
  go_wp2_with fail
  refine (strNewQ D1.out 30 nmQ _ _ 3 _ rfl rfl rfl (by decide) (by decide) (by decide)).mono ?_
  rintro e w2 ⟨⟨s2, rfl, hs2⟩, dx2, g2⟩
  have D2 := hide dx2
  have G2 := hide (grown_trans G1.out g2)
  have BR2 := hide (BR1.out.grown g2 (by omega))
  clear dx2 g2 D1 G1 BR1
  go_wp2_with fail
  refine (strNewQ D2.out 30 vlQ _ _ 3 _ rfl rfl rfl (by decide) (by decide) (by decide)).mono ?_
  rintro e w3 ⟨⟨s3, rfl, hs3⟩, dx3, g3⟩
  have D3 := hide dx3
  have G3 := hide (grown_trans G2.out g3)
  have BR3 := hide (BR2.out.grown g3 (by omega))
  clear dx3 g3 D2 G2 BR2
  obtain ⟨_, r0, r1, r2, rz⟩ := BR3.out
  go_wp2
  refine bodyPost_ret (v := .agg #[.string s1, .string s2, .string s3]) (by simp [results, Try.results80, go_sem, r0, r1, r2]) rfl ⟨⟨(s1, s2, s3), rfl, hs1, hs2, hs3⟩, ((D3.out.set _ hNl).set _ hNl).set _ hNl, grown_setQ (grown_setQ (grown_setQ G3.out _ (Nat.le_refl _)) _ (Nat.le_refl _)) _ (Nat.le_refl _)⟩

theorem FewP.short {p : Pp} (h : FewP p) : p.1.size ≤ maxLen ∧ p.2.1.size ≤ maxLen ∧ p.2.2.size ≤ maxLen := by
  obtain ⟨h1, h2, h3⟩ := h
  unfold maxLen; omega
theorem sets_right {ps : List Pp} {ss : List Sx} (h : propsB ps = true) : propsB (setsL ps ss) = true := by
  by_cases e : setsB ps ss = true
  · rw [sets_yes e]
    unfold setsB at e
    exact (Bool.and_eq_true_iff.1 e).2
  · rw [sets_no (by simpa using e)]; exact h
theorem props_few {ps : List Pp} (h : propsB ps = true) : ps.length ≤ 4 ∧ ∀ p ∈ ps, propB p = true := by
  unfold propsB at h
  obtain ⟨h1, h2⟩ := Bool.and_eq_true_iff.1 h
  exact ⟨of_decide_eq_true h1, List.all_eq_true.1 (Bool.and_eq_true_iff.1 h2).1⟩
theorem prop_short {p : Pp} (h : propB p = true) : p.1.size ≤ 60 ∧ p.2.1.size ≤ 60 ∧ p.2.2.size ≤ 60 := by
  have := prop_small h
  unfold szP at this
  omega
theorem OwnQ.grown {w w' : World} {B N : Nat} {v : Value} {ps : List Pp} (h : OwnQ w B v ps) (hg : w.grownBy w' (some N)) (hN : N < B) : OwnQ w' B v ps :=
  World.ownsRow.kept h hg (by
    rcases h.2 with ⟨e, _⟩ | ⟨g, c, cur, e, hB, _⟩
    · left; rw [e]; rfl
    · right; rw [e]; simp [Value.ownBlock]; omega)

set_option maxRecDepth 100000 in
set_option maxHeartbeats 4000000 in
theorem l10Props_any {w : World} {N : Nat} {a : Option Addr} {len cap : Nat} {zs : List Int} (h : DX w N a len cap zs) :
    Calls Try.prog 44 #[.pointer (some ⟨N, 0, none⟩)] w fun e w' => (∃ (ps : List Pp) (g n c : Nat), propsB ps = true ∧ n = ps.length ∧ e = .returned (.slice (some ⟨g, 0, none⟩) n c) ∧ OwnQ w' w.heap.size (.slice (some ⟨g, 0, none⟩) n c) ps) ∧ DX w' N a len cap zs ∧ w.grownBy w' (some N) := by
  have hlt := h.lt
  have H := hide h
  have HM := hide (OwnQ.made w w.heap.size (Nat.le_refl _))
  clear h
  go_enter Try.func44, Try.ntmps44
  go_wp2_with fail
  refine (l1BelowX (H.out.alloc _) 3 (by decide) (by decide)).mono ?_
  rintro e w1 ⟨⟨k0, rfl, hk0⟩, hd1, hg1⟩
  have HG := hide (grown_trans (grown_alloc (grown_refl w (some N)) _) hg1)
  have HO1 := hide (HM.out.grown hg1 hlt)
  have HD := hide hd1
  clear hg1 hd1
  go_wp2
  go_loopw [3, 4] (fun v i wr => ∃ (k : Nat) (ps : List Pp) (n g c : Nat), i = .int .i64 k ∧ k ≤ 3 ∧ v = .slice (some ⟨g, 0, none⟩) n c ∧ Hid (n = ps.length) ∧ Hid (propsB ps = true) ∧ OwnQ wr w.heap.size (.slice (some ⟨g, 0, none⟩) n c) ps ∧ DX wr N a len cap zs ∧ w.grownBy wr (some N)) (fun _ i _ => (intOf i).toNat)
  case atStart => exact ⟨k0, [], 0, w.heap.size, 0, rfl, by omega, rfl, rfl, hide (by decide), HO1.out, HD.out, HG.out⟩
  case round =>
    obtain ⟨k, ps, n, g, c, rfl, hk3, rfl, hn, hps, hown, hd, hg⟩ := hrel
    have HD2 := hide hd
    have HG2 := hide hg
    clear hd hg
    by_cases h0 : 0 < k
    · have h0' : (0 : Int) < k := by omega
      go_wp2_with fail
      refine (l10OneProp_any HD2.out).mono ?_
      rintro e w2 ⟨⟨p, rfl, hp⟩, hd2, hg2⟩
      have hown2 := hown.grown hg2 hlt
      have HG3 := hide (grown_trans HG2.out hg2)
      have HP := hide hp
      have hsz := HG3.out.size
      have HBA := hide ((Below.refl w2.heap.size w2).alloc (Nat.le_refl _) (Obj.cells #[.bool false, .string p.1, .string p.2.1, .string p.2.2] 38))
      have HDA := hide (hd2.below HBA.out)
      have hownA := hown2.next HBA.out
      obtain ⟨aq, cq, eq, hcn, hpq, hcq⟩ := hownA.slice
      have hnl := hn.out
      have eq2 : Value.slice (some ⟨g, 0, none⟩) n c = .slice (some ⟨g, 0, none⟩) ps.length c := by rw [hnl]
      obtain rfl : aq = some ⟨g, 0, none⟩ := by rw [eq2] at eq; cases eq; rfl
      have HPF := hide (props_few hps.out)
      have HS := hide (specSetProps_any (some ⟨g, 0, none⟩) ps c _ (some ⟨w2.heap.size, 0, none⟩) [(false, p)] 1 _ _ hpq (Nat.le_refl _) (fun e => by cases e) (show Sts (w2.alloc (Obj.cells #[.bool false, .string p.1, .string p.2.1, .string p.2.2] 38)) (w2.alloc (Obj.cells #[.bool false, .string p.1, .string p.2.1, .string p.2.2] 38)).heap.size (some ⟨w2.heap.size, 0, none⟩) [(false, p)] from fun _ => ⟨w2.heap.size, 0, rfl, by simp, fun j hj => by
        have e0 : j = 0 := by simp at hj; exact hj
        subst e0
        unfold StAt
        simp⟩) (Nat.le_refl _) (by have := HPF.out.1; omega) (by simp) (fun q hq => by have := prop_short (HPF.out.2 q hq); unfold maxLen; omega) (fun s hs => by
        have e0 : s = (false, p) := by simpa using hs
        subst e0
        exact HP.out.short))
      rw [← hnl] at HS
      have HR := hide (sets_right (ss := [(false, p)]) hps.out)
      clear hnl eq eq2 hpq hcn hcq hown2 hownA hd2 hg2 hp hown
      go_wp2_with fail
      refine HS.out.mono ?_
      rintro e w3 ⟨⟨g3, n3, c3, rfl, hn3, hO3⟩, b3⟩
      have HN3 := hide hn3
      have hO4 := hO3.base (C := w.heap.size) (by have := HBA.out.size; omega)
      have HD4 := hide (HDA.out.below b3)
      have HG4 := hide (grown_belowQ (grown_belowQ HG3.out HBA.out (by omega)) b3 (by have := HBA.out.size; omega))
      clear hn3 hO3 b3 HS
      go_wp2
      go_roundw
      case rel => exact ⟨k - 1, _, n3, g3, c3, by first | go_num | (congr 1; omega), by omega, rfl, HN3, HR, hO4, HD4.out, HG4.out⟩
      case measure => simp [intOf]; omega
    · have hk : k = 0 := by omega
      subst hk
      go_wp2
      go_ret
      exact ⟨⟨ps, g, n, c, hps.out, hn.out, rfl, hown⟩, HD2.out, HG2.out⟩
end Go.Proofs.Ytkgdmlfdlkmojaa
