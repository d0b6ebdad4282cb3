/-
  The draw of bytes, cut into parts, each in memory of its own.
-/
import Derived.Test.YtanebchmeaomgaaGreatDoorCut
namespace Go.Proofs.YtanebchmeaomgaaGreatDoor
open Go.RowKit M
set_option linter.unusedVariables false

/-- The slices of this row hold these bytes, each in a block of its own from B on. -/
def PartsO (w : World) (B : Nat) (cs : List Value) (ls : List (List UInt8)) : Prop := cs.length = ls.length ∧ ∀ j (hj : j < ls.length), ∃ v, cs[j]? = some v ∧ OwnY w B v ls[j]
theorem PartsO.nil (w : World) (B : Nat) : PartsO w B [] [] := ⟨rfl, fun j hj => absurd hj (Nat.not_lt_zero _)⟩
theorem PartsO.snoc {w : World} {B : Nat} {cs : List Value} {ls : List (List UInt8)} (h : PartsO w B cs ls) {v : Value} {l : List UInt8} (hy : OwnY w B v l) : PartsO w B (cs ++ [v]) (ls ++ [l]) := by
  refine ⟨by simp [h.1], fun j hj => ?_⟩
  rw [List.length_append, List.length_singleton] at hj
  by_cases hjl : j < ls.length
  · obtain ⟨v', e, r⟩ := h.2 j hjl
    refine ⟨v', ?_, ?_⟩
    · rw [List.getElem?_append_left (by rw [h.1]; exact hjl)]; exact e
    · rw [List.getElem_append_left hjl]; exact r
  · have hje : j = ls.length := by omega
    subst hje
    refine ⟨v, ?_, ?_⟩
    · rw [List.getElem?_append_right (by rw [h.1]; exact Nat.le_refl _), h.1]; simp
    · simp only [List.getElem_append_right (Nat.le_refl _), Nat.sub_self, List.getElem_cons_zero]; exact hy
theorem PartsO.of {w w' : World} {B : Nat} {cs : List Value} {ls : List (List UInt8)} (h : PartsO w B cs ls) (hb : ∀ v l g, OwnY w B v l → v.ownBlock = some g → w'.heap[g]? = w.heap[g]?) : PartsO w' B cs ls :=
  ⟨h.1, fun j hj => by obtain ⟨v, e, hy⟩ := h.2 j hj; exact ⟨v, e, ownY_of hy (fun g hg => hb v _ g hy hg)⟩⟩
theorem PartsO.grown {w w' : World} {B N : Nat} {cs : List Value} {ls : List (List UInt8)} (h : PartsO w B cs ls) (hg : w.grownBy w' (some N)) (hN : N < B) : PartsO w' B cs ls :=
  h.of (fun v l g hy e => hg.block g (hy.lt g e).2 (by have := (hy.lt g e).1; simp; omega))
theorem PartsO.next {w w' : World} {B : Nat} {cs : List Value} {ls : List (List UInt8)} (h : PartsO w B cs ls) (hb : Below w.heap.size w w') : PartsO w' B cs ls :=
  h.of (fun v l g hy e => hb.block g (hy.lt g e).2)
/-- A row of slices is no row of bytes. -/
theorem rows_apart {w : World} {B C : Nat} {v u : Value} {cs : List Value} {l : List UInt8} (h : OwnV w B v cs) (hy : OwnY w C u l) (g : Nat) (h1 : v.ownBlock = some g) (h2 : u.ownBlock = some g) : False := by
  obtain ⟨g', cap, cur, fz, rfl, _, hg, _⟩ := hy
  rcases h.2 with ⟨rfl, _⟩ | ⟨g2, cap2, cur2, rfl, _, hg2, _⟩
  · cases h1
  · cases h1
    cases h2
    rw [hg] at hg2
    have h9 := Option.some.inj hg2
    injection h9 with _ h10
    exact absurd h10 (by decide)
theorem PartsO.outer {w w' : World} {B C : Nat} {cs ds : List Value} {ls : List (List UInt8)} {v : Value} (h : PartsO w B cs ls) (hv : OwnV w C v ds) (hg : w.grownBy w' v.ownBlock) : PartsO w' B cs ls :=
  h.of (fun u l g hy e => hg.block g (hy.lt g e).2 (fun e' => rows_apart hv hy g e'.symm e))
theorem PartsO.bss {w : World} {B : Nat} {v : Value} {cs : List Value} {ls : List (List UInt8)} (h : PartsO w B cs ls) (ho : OwnV w B v cs) : ∃ a c, v = .slice a ls.length c ∧ ls.length ≤ c ∧ Bss w w.heap.size a ls := by
  obtain ⟨hn, ho⟩ := ho
  rcases ho with ⟨rfl, h0⟩ | ⟨g, cap, cur, rfl, hBg, hg, h1, h2, h3, h4⟩
  · have : cs.length = 0 := by omega
    have hl : ls.length = 0 := by rw [← h.1]; exact this
    exact ⟨none, 0, by rw [hl], by omega, fun h0 => absurd h0 (by omega)⟩
  · refine ⟨some ⟨g, 0, none⟩, cap, by rw [h.1], by rw [← h.1]; exact h1, fun _ => ⟨g, 0, rfl, (Array.getElem?_eq_some_iff.1 hg).1, fun j hj => ?_⟩⟩
    obtain ⟨u, e, hy⟩ := h.2 j hj
    obtain ⟨gu, cu, rfl, hB1, hB2, hc1, hc2, hb⟩ := hy.byt
    refine ⟨_, cu, ?_, hb, hc1, hc2⟩
    have hx : cur.toList[j]? = some (.slice (some ⟨gu, 0, none⟩) ls[j].length cu) := by
      rw [← e, ← h4, List.getElem?_take, if_pos (by rw [h.1]; omega)]
    rw [Nat.zero_add]
    simp [World.cell?, hg]
    simpa using hx

theorem intNewIn {w : World} {N : Nat} {a : Option Addr} {len cap : Nat} {zs : List Int} (h : DX w N a len cap zs) (ss : List Int) (C : Array Value) (T : TypeId) (n M : Nat) (hM : M = w.heap.size) (hC : C = (ss.map (Value.int .i64)).toArray) (hn : ss.length = n) (h0 : 0 < n) (h1 : n ≤ 256) (p : Int → Prop) (hpd : ∀ i, i < n → p (ss.getD i 0)) :
    Calls Tryz.prog 48 #[.pointer (some ⟨N, 0, none⟩), .slice (some ⟨M, 0, none⟩) n n] (w.alloc (.cells C T)) fun e w' => (∃ x : Int, e = .returned (.int .i64 x) ∧ (p x)) ∧ DX w' N a len cap zs ∧ w.grownBy w' (some N) := by
  obtain ⟨c, h⟩ := h
  refine (intNew h ss C T n M hM hC hn h0 h1).mono ?_
  rintro e w1 ⟨rfl, hd, hg⟩
  exact ⟨⟨_, rfl, hpd _ (pick_lt _ _ _ _ h0)⟩, ⟨_, hd⟩, hg⟩
theorem OwnV.slice {w : World} {B : Nat} {v : Value} {cs : List Value} (h : OwnV w B v cs) : ∃ a c, v = .slice a cs.length c := by
  rcases h.2 with ⟨e, h0⟩ | ⟨g, cap, cur, e, _⟩
  · rw [h0]; exact ⟨_, _, e⟩
  · exact ⟨_, _, e⟩
theorem OwnV.kept {w w' : World} {B N : Nat} {v : Value} {cs : List Value} (h : OwnV w B v cs) (hg : w.grownBy w' (some N)) (hN : N < B) : OwnV w' B v cs := by
  have hlt := World.ownsRow.lt h
  refine World.ownsRow.kept h hg ?_
  cases hv : v.ownBlock with
  | none => exact .inl rfl
  | some k => exact .inr (by have := (hlt k hv).1; simp; omega)
theorem OwnV.next {w w' : World} {B : Nat} {v : Value} {cs : List Value} (h : OwnV w B v cs) (hb : Below w.heap.size w w') : OwnV w' B v cs := by
  refine ⟨h.1, ?_⟩
  rcases h.2 with h | ⟨g, cap, cur, e, hB, hh, hr⟩
  · exact .inl h
  · exact .inr ⟨g, cap, cur, e, hB, (hb.block g (Array.getElem?_eq_some_iff.1 hh).1).trans hh, hr⟩
theorem Byt.grown {w w' : World} {B g o N : Nat} {l : List UInt8} (h : Byt w B (some ⟨g, o, none⟩) l) (hg : w.grownBy w' (some N)) (hN : g ≠ N) (hB : B ≤ w.heap.size) : Byt w' B (some ⟨g, o, none⟩) l := fun h0 => by
  obtain ⟨b, o', e, hbB, hc⟩ := h h0
  cases e
  exact ⟨g, o, rfl, hbB, fun j hj => (World.cell?_of_block (a := ⟨g, o + j, none⟩) (hg.block g (by omega) (by simp; exact hN))).trans (hc j hj)⟩
/-- A part is copied, and laid behind the others. -/
theorem step6 {w w3 w4 w5 : World} {N : Nat} {a : Option Addr} {len cap : Nat} {zs : List Int} {v v4 : Value} {cs : List Value} {ls : List (List UInt8)} {m : List UInt8} (hN : N < w.heap.size) (hG : w.grownBy w3 (some N)) (hD : DX w3 N a len cap zs) (hO : OwnV w3 w.heap.size v cs) (hP : PartsO w3 w.heap.size cs ls)
    (ho4 : OwnY w4 w3.heap.size v4 m) (hg4 : (w3.alloc (Obj.cells #[] 5)).grownBy w4 (some w3.heap.size)) (hg5 : (w4.alloc (Obj.cells #[v4] 22)).grownBy w5 v.ownBlock) :
    OwnV (w4.alloc (Obj.cells #[v4] 22)) w.heap.size v cs ∧ PartsO w5 w.heap.size (cs ++ [v4]) (ls ++ [m]) ∧ DX w5 N a len cap zs ∧ w.grownBy w5 (some N) := by
  have z3 := hG.size
  have b4 : Below w3.heap.size w3 w4 := ((Below.refl _ _).alloc (Nat.le_refl _) _).trans ⟨hg4.os, hg4.tape, hg4.output, hg4.size, fun k hk => hg4.block k (by simp; omega) (by simp; omega)⟩
  have b4' := b4.trans ((Below.refl w4.heap.size w4).alloc (Nat.le_refl _) (Obj.cells #[v4] 22) |>.mono b4.size)
  have hO4 := hO.next b4'
  have hlt := World.ownsRow.lt hO
  have b5 : Below w.heap.size (w4.alloc (Obj.cells #[v4] 22)) w5 := ⟨hg5.os, hg5.tape, hg5.output, hg5.size, fun k hk => hg5.block k (by have := b4'.size; omega) (fun e => by have := (hlt k e.symm).1; omega)⟩
  have b35 : Below w.heap.size w3 w5 := (b4'.mono z3).trans b5
  refine ⟨hO4, PartsO.outer ((hP.next b4').snoc (OwnY.base (OwnY.alloc ho4 _) z3)) hO4 hg5, hD.other b35.size (fun k hk => b35.block k (by omega)), grown_past hG b35⟩

set_option maxRecDepth 100000 in
set_option maxHeartbeats 8000000 in
theorem l6Cut_any {w : World} {N : Nat} {a : Option Addr} {len cap : Nat} {zs : List Int} (h : DX w N a len cap zs) (g o : Nat) (l : List UInt8) (c : Nat) (hy : Byt w w.heap.size (some ⟨g, o, none⟩) l) (hgN : g ≠ N) (hl : l.length ≤ c) (hcm : c ≤ maxLen) (hl2 : l.length ≤ 12000) :
    Calls Tryz.prog 39 #[.pointer (some ⟨N, 0, none⟩), .slice (some ⟨g, o, none⟩) l.length c] w fun e w' => (∃ (a' : Option Addr) (c' : Nat) (ls : List (List UInt8)), e = .returned (.slice a' ls.length c') ∧ ls.flatten = l ∧ ls.length ≤ 13 ∧ ls.length ≤ c' ∧ Bss w' w'.heap.size a' ls) ∧ DX w' N a len cap zs ∧ w.grownBy w' (some N) := by
  have hlt := h.lt
  have H := hide h
  have HY0 := hide hy
  have O0 : Hid (OwnV (w.alloc (Obj.cells #[] 22)) w.heap.size (.slice (some ⟨w.heap.size, 0, none⟩) 0 0) []) :=
    ⟨rfl, .inr ⟨w.heap.size, 0, #[], rfl, Nat.le_refl _, heap_alloc_new w _, Nat.le_refl _, Nat.zero_le _, rfl, rfl⟩⟩
  clear h hy
  go_enter Tryz.func39, Tryz.ntmps39
  go_wp2
  go_loopw [1, 5] (fun b v wr => ∃ (ls : List (List UInt8)) (lr : List UInt8) (o1 cr : Nat) (cs : List Value), ls.length ≤ 12 ∧ lr.length ≤ l.length ∧ b = .slice (some ⟨g, o1, none⟩) lr.length cr ∧ lr.length ≤ cr ∧ cr ≤ maxLen ∧ ls.flatten ++ lr = l ∧ Byt w w.heap.size (some ⟨g, o1, none⟩) lr ∧ PartsO wr w.heap.size cs ls ∧ OwnV wr w.heap.size v cs ∧ DX wr N a len cap zs ∧ w.grownBy wr (some N)) (fun b _ _ => match b with | .slice _ n _ => n | _ => 0)
  case atStart => exact ⟨[], l, o, c, [], Nat.zero_le _, Nat.le_refl _, rfl, hl, hcm, rfl, HY0.out, PartsO.nil _ _, O0.out, H.out.alloc _, grown_alloc (grown_refl w (some N)) _⟩
  case round =>
    clear O0 HY0 H hcm hl
    obtain ⟨ls, lr, o1, cr, cs, hls, hll, rfl, hlc, hcm, hfl, hyr, hps, how, hd, hg⟩ := hrel
    obtain ⟨av, cv, rfl⟩ := how.slice
    have HFl := hide hfl
    have HY := hide hyr
    have HP := hide hps
    have HO := hide how
    have HD := hide hd
    have HG := hide hg
    have hcs : cs.length = ls.length := hps.1
    have hcs12 : cs.length ≤ 12 := by omega
    have HCS := hide hcs
    have hz := hg.size
    have hm64 : maxLen ≤ 9223372036854775807 := by unfold maxLen; omega
    clear hfl hyr hps how hd hg hls hcs
    by_cases h0 : lr.length = 0
    · have h0i : ¬ ((0 : Int) < (lr.length : Int)) := by omega
      have h0n : ¬ (0 < lr.length) := by omega
      clear h0
      have HYT := hide ((HY.out.grown HG.out hgN (Nat.le_refl _)).below ((Below.refl wr.heap.size wr).alloc (Nat.le_refl _) (Obj.cells #[] 5)) hz)
      go_wp2_with (at_builtin; refine wp_append_any rfl _ _ rfl wr.heap.size _ [] rfl (OwnY.bare wr) (some ⟨g, o1, none⟩) lr cr w.heap.size rfl HYT.out ?_ ?_ ?_)
      all_goals first | (first | omega | (simp; done) | (simp; omega)) | skip
      intro v4 w4 ho4 hg4 _
      obtain ⟨g4, c4, e4, ho4'⟩ := ho4.slice
      subst e4
      have HO4 := hide ho4'
      have HG4 := hide hg4
      have hz4 := hg4.size
      clear ho4 hg4 ho4'
      have HS6 := hide (fun (w5 : World) (hg5) => step6 (w5 := w5) hlt HG.out HD.out HO.out HP.out HO4.out HG4.out hg5)
      have hO5 := (HS6.out _ ⟨rfl, rfl, rfl, Nat.le_refl _, fun _ _ _ => rfl⟩).1
      have HO5 := hide hO5
      clear hO5
      go_wp2_with (at_builtin; refine wp_append_sl rfl _ _ rfl w.heap.size _ cs rfl HO5.out _ (some ⟨g4, 0, none⟩) (lr.length) c4 rfl ?_ ?_ ?_ ?_)
      all_goals first | (first | omega | (simp; done) | (simp at hz4 ⊢; omega)) | skip
      intro v' w' ho' hg'
      have hfin := (HS6.out w' hg').2
      obtain ⟨a2, c2, rfl, hc2, hbs⟩ := hfin.1.bss ho'
      have HBs := hide hbs
      have HF := hide hfin.2
      clear hbs hfin ho' hg'
      go_wp2
      go_ret
      exact ⟨⟨a2, c2, ls ++ [lr], rfl, by rw [List.flatten_append, List.flatten_cons, List.flatten_nil, List.append_nil]; exact HFl.out, by rw [List.length_append, List.length_singleton, ← HCS.out]; omega, hc2, HBs.out⟩, HF.out.1, HF.out.2⟩
    by_cases hk12 : cs.length < 12
    rotate_left
    · have h0i : (0 : Int) < (lr.length : Int) := by omega
      have h0n : 0 < lr.length := by omega
      have hk12i : ¬ ((cs.length : Int) < 12) := by omega
      have HYT := hide ((HY.out.grown HG.out hgN (Nat.le_refl _)).below ((Below.refl wr.heap.size wr).alloc (Nat.le_refl _) (Obj.cells #[] 5)) hz)
      go_wp2_with (at_builtin; refine wp_append_any rfl _ _ rfl wr.heap.size _ [] rfl (OwnY.bare wr) (some ⟨g, o1, none⟩) lr cr w.heap.size rfl HYT.out ?_ ?_ ?_)
      all_goals first | (first | omega | (simp; done) | (simp; omega)) | skip
      intro v4 w4 ho4 hg4 _
      obtain ⟨g4, c4, e4, ho4'⟩ := ho4.slice
      subst e4
      have HO4 := hide ho4'
      have HG4 := hide hg4
      have hz4 := hg4.size
      clear ho4 hg4 ho4'
      have HS6 := hide (fun (w5 : World) (hg5) => step6 (w5 := w5) hlt HG.out HD.out HO.out HP.out HO4.out HG4.out hg5)
      have hO5 := (HS6.out _ ⟨rfl, rfl, rfl, Nat.le_refl _, fun _ _ _ => rfl⟩).1
      have HO5 := hide hO5
      clear hO5
      go_wp2_with (at_builtin; refine wp_append_sl rfl _ _ rfl w.heap.size _ cs rfl HO5.out _ (some ⟨g4, 0, none⟩) (lr.length) c4 rfl ?_ ?_ ?_ ?_)
      all_goals first | (first | omega | (simp; done) | (simp at hz4 ⊢; omega)) | skip
      intro v' w' ho' hg'
      have hfin := (HS6.out w' hg').2
      obtain ⟨a2, c2, rfl, hc2, hbs⟩ := hfin.1.bss ho'
      have HBs := hide hbs
      have HF := hide hfin.2
      clear hbs hfin ho' hg'
      go_wp2
      go_ret
      exact ⟨⟨a2, c2, ls ++ [lr], rfl, by rw [List.flatten_append, List.flatten_cons, List.flatten_nil, List.append_nil]; exact HFl.out, by rw [List.length_append, List.length_singleton, ← HCS.out]; omega, hc2, HBs.out⟩, HF.out.1, HF.out.2⟩
    have h0i : (0 : Int) < (lr.length : Int) := by omega
    have h0n : 0 < lr.length := by omega
    have hk12i : (cs.length : Int) < 12 := by omega
    go_wp2_with fail
    refine (intNewIn HD.out [1, 3, 20, 200] _ _ 4 _ rfl rfl rfl (by decide) (by decide) (fun x => 0 < x ∧ x ≤ 1000) (by decide)).mono ?_
    rintro e w2 ⟨⟨x, rfl, hx⟩, hd2, hg2⟩
    have HO2 := hide (HO.out.kept hg2 hlt)
    have HP2 := hide (HP.out.grown hg2 hlt)
    have HG2 := hide (grown_trans HG.out hg2)
    have HD2 := hide hd2
    clear hd2 hg2 HO HP HG HD
    go_wp2_with fail
    refine (l1BelowX HD2.out x hx.1 (by omega)).mono ?_
    rintro e w3 ⟨⟨q, rfl, hq⟩, hd3, hg3⟩
    have HO3 := hide (HO2.out.kept hg3 hlt)
    have HP3 := hide (HP2.out.grown hg3 hlt)
    have HG3 := hide (grown_trans HG2.out hg3)
    have HD3 := hide hd3
    have hz3 := HG3.out.size
    clear hd3 hg3 HO2 HP2 HG2 HD2
    obtain ⟨n, hn⟩ : ∃ n : Nat, n = 1 + q := ⟨_, rfl⟩
    have hni : (1 : Int) + (q : Int) = (n : Int) := by omega
    have hwn : IntKind.i64.wrap (1 + (q : Int)) = (n : Int) := by rw [IntKind.wrap_i64]; omega
    have hn0 : 0 < n := by omega
    have hn2 : n ≤ 1001 := by omega
    clear hq hn hx
    by_cases hgt : (lr.length : Int) < (n : Int)
    · by_cases hcM : cr = lr.length
      · have hcM2 : lr.length = cr := hcM.symm
        clear hcM
        subst hcM2
        have hMt : (lr.take lr.length).length = lr.length := by rw [List.length_take]; omega
        have hMi : (lr.length : Int) ≤ (lr.length : Int) := by omega
        have hyd := HY.out.dropAt lr.length lr.length hlc
        rw [if_pos rfl] at hyd
        have HYd := hide hyd
        clear hyd
        have hyt := ((HY.out.take lr.length).grown HG3.out hgN (Nat.le_refl _)).below ((Below.refl w3.heap.size w3).alloc (Nat.le_refl _) (Obj.cells #[] 5)) hz3
        have HYT := hide hyt
        clear hyt
        go_wp2_with (at_builtin; refine wp_append_any rfl _ _ rfl w3.heap.size _ [] rfl (OwnY.bare w3) (some ⟨g, o1, none⟩) (lr.take lr.length) lr.length w.heap.size (by rw [hMt]; rfl) HYT.out ?_ ?_ ?_)
        all_goals first | (first | omega | (simp; done) | (simp; omega) | (rw [hMt]; simp; omega)) | skip
        intro v4 w4 ho4 hg4 _
        obtain ⟨g4, c4, e4, ho4'⟩ := ho4.slice
        subst e4
        have ho4' : OwnY w4 w3.heap.size (.slice (some ⟨g4, 0, none⟩) lr.length c4) (lr.take lr.length) := by rw [List.take_length]; exact ho4'
        have HO4 := hide ho4'
        have HG4 := hide hg4
        have hz4 := hg4.size
        clear ho4 hg4 ho4'
        have HS6 := hide (fun (w5 : World) (hg5) => step6 (w5 := w5) hlt HG3.out HD3.out HO3.out HP3.out HO4.out HG4.out hg5)
        have hO5 := (HS6.out _ ⟨rfl, rfl, rfl, Nat.le_refl _, fun _ _ _ => rfl⟩).1
        have HO5 := hide hO5
        clear hO5
        go_wp2_with (at_builtin; refine wp_append_sl rfl _ _ rfl w.heap.size _ cs rfl HO5.out _ (some ⟨g4, 0, none⟩) (lr.length) c4 rfl ?_ ?_ ?_ ?_)
        all_goals first | (first | omega | (simp; done) | (simp at hz4 ⊢; omega)) | skip
        intro v' w' ho' hg'
        have hfin := (HS6.out w' hg').2
        have HF := hide hfin
        have HO6 := hide ho'
        clear hfin ho' hg'
        go_wp2
        go_roundw
        case rel => exact ⟨ls ++ [lr.take lr.length], lr.drop lr.length, o1, 0, _, by rw [List.length_append, List.length_singleton, ← HCS.out]; omega, by rw [List.length_drop]; omega, by first | rfl | (rw [List.length_drop]; done) | (rw [List.length_drop, show lr.length - lr.length = 0 by omega]), by rw [List.length_drop]; omega, by omega, by simp only [List.flatten_append, List.flatten_cons, List.flatten_nil, List.append_nil, List.append_assoc, List.take_append_drop]; exact HFl.out, HYd.out, HF.out.1, HO6.out, HF.out.2.1, HF.out.2.2⟩
        case measure => simp; omega
      · skip
        have hMt : (lr.take lr.length).length = lr.length := by rw [List.length_take]; omega
        have hMi : (lr.length : Int) ≤ (cr : Int) := by omega
        have hyd := HY.out.dropAt lr.length cr hlc
        rw [if_neg hcM] at hyd
        have HYd := hide hyd
        clear hyd
        have hyt := ((HY.out.take lr.length).grown HG3.out hgN (Nat.le_refl _)).below ((Below.refl w3.heap.size w3).alloc (Nat.le_refl _) (Obj.cells #[] 5)) hz3
        have HYT := hide hyt
        clear hyt
        go_wp2_with (at_builtin; refine wp_append_any rfl _ _ rfl w3.heap.size _ [] rfl (OwnY.bare w3) (some ⟨g, o1, none⟩) (lr.take lr.length) cr w.heap.size (by rw [hMt]; rfl) HYT.out ?_ ?_ ?_)
        all_goals first | (first | omega | (simp; done) | (simp; omega) | (rw [hMt]; simp; omega)) | skip
        intro v4 w4 ho4 hg4 _
        obtain ⟨g4, c4, e4, ho4'⟩ := ho4.slice
        subst e4
        have ho4' : OwnY w4 w3.heap.size (.slice (some ⟨g4, 0, none⟩) lr.length c4) (lr.take lr.length) := by rw [List.take_length]; exact ho4'
        have HO4 := hide ho4'
        have HG4 := hide hg4
        have hz4 := hg4.size
        clear ho4 hg4 ho4'
        have HS6 := hide (fun (w5 : World) (hg5) => step6 (w5 := w5) hlt HG3.out HD3.out HO3.out HP3.out HO4.out HG4.out hg5)
        have hO5 := (HS6.out _ ⟨rfl, rfl, rfl, Nat.le_refl _, fun _ _ _ => rfl⟩).1
        have HO5 := hide hO5
        clear hO5
        go_wp2_with (at_builtin; refine wp_append_sl rfl _ _ rfl w.heap.size _ cs rfl HO5.out _ (some ⟨g4, 0, none⟩) (lr.length) c4 rfl ?_ ?_ ?_ ?_)
        all_goals first | (first | omega | (simp; done) | (simp at hz4 ⊢; omega)) | skip
        intro v' w' ho' hg'
        have hfin := (HS6.out w' hg').2
        have HF := hide hfin
        have HO6 := hide ho'
        clear hfin ho' hg'
        go_wp2
        go_roundw
        case rel => exact ⟨ls ++ [lr.take lr.length], lr.drop lr.length, o1 + lr.length, cr - lr.length, _, by rw [List.length_append, List.length_singleton, ← HCS.out]; omega, by rw [List.length_drop]; omega, by first | rfl | (rw [List.length_drop]; done) | (rw [List.length_drop, show lr.length - lr.length = 0 by omega]), by rw [List.length_drop]; omega, by omega, by simp only [List.flatten_append, List.flatten_cons, List.flatten_nil, List.append_nil, List.append_assoc, List.take_append_drop]; exact HFl.out, HYd.out, HF.out.1, HO6.out, HF.out.2.1, HF.out.2.2⟩
        case measure => simp; omega
    · have hMl : n ≤ lr.length := by omega
      have hMj : (n : Int) ≤ (lr.length : Int) := by omega
      by_cases hcM : cr = n
      · have hcM2 : n = cr := hcM.symm
        clear hcM
        subst hcM2
        have hMt : (lr.take n).length = n := by rw [List.length_take]; omega
        have hMi : (n : Int) ≤ (n : Int) := by omega
        have hyd := HY.out.dropAt n n hlc
        rw [if_pos rfl] at hyd
        have HYd := hide hyd
        clear hyd
        have hyt := ((HY.out.take n).grown HG3.out hgN (Nat.le_refl _)).below ((Below.refl w3.heap.size w3).alloc (Nat.le_refl _) (Obj.cells #[] 5)) hz3
        have HYT := hide hyt
        clear hyt
        go_wp2_with (at_builtin; refine wp_append_any rfl _ _ rfl w3.heap.size _ [] rfl (OwnY.bare w3) (some ⟨g, o1, none⟩) (lr.take n) n w.heap.size (by rw [hMt]; rfl) HYT.out ?_ ?_ ?_)
        all_goals first | (first | omega | (simp; done) | (simp; omega) | (rw [hMt]; simp; omega)) | skip
        intro v4 w4 ho4 hg4 _
        obtain ⟨g4, c4, e4, ho4'⟩ := ho4.slice
        rw [hMt] at e4 ho4'
        subst e4
        have HO4 := hide ho4'
        have HG4 := hide hg4
        have hz4 := hg4.size
        clear ho4 hg4 ho4'
        have HS6 := hide (fun (w5 : World) (hg5) => step6 (w5 := w5) hlt HG3.out HD3.out HO3.out HP3.out HO4.out HG4.out hg5)
        have hO5 := (HS6.out _ ⟨rfl, rfl, rfl, Nat.le_refl _, fun _ _ _ => rfl⟩).1
        have HO5 := hide hO5
        clear hO5
        go_wp2_with (at_builtin; refine wp_append_sl rfl _ _ rfl w.heap.size _ cs rfl HO5.out _ (some ⟨g4, 0, none⟩) (n) c4 rfl ?_ ?_ ?_ ?_)
        all_goals first | (first | omega | (simp; done) | (simp at hz4 ⊢; omega)) | skip
        intro v' w' ho' hg'
        have hfin := (HS6.out w' hg').2
        have HF := hide hfin
        have HO6 := hide ho'
        clear hfin ho' hg'
        go_wp2
        go_roundw
        case rel => exact ⟨ls ++ [lr.take n], lr.drop n, o1, 0, _, by rw [List.length_append, List.length_singleton, ← HCS.out]; omega, by rw [List.length_drop]; omega, by first | rfl | (rw [List.length_drop]; done) | (rw [List.length_drop, show lr.length - n = 0 by omega]), by rw [List.length_drop]; omega, by omega, by simp only [List.flatten_append, List.flatten_cons, List.flatten_nil, List.append_nil, List.append_assoc, List.take_append_drop]; exact HFl.out, HYd.out, HF.out.1, HO6.out, HF.out.2.1, HF.out.2.2⟩
        case measure => simp; omega
      · skip
        have hMt : (lr.take n).length = n := by rw [List.length_take]; omega
        have hMi : (n : Int) ≤ (cr : Int) := by omega
        have hyd := HY.out.dropAt n cr hlc
        rw [if_neg hcM] at hyd
        have HYd := hide hyd
        clear hyd
        have hyt := ((HY.out.take n).grown HG3.out hgN (Nat.le_refl _)).below ((Below.refl w3.heap.size w3).alloc (Nat.le_refl _) (Obj.cells #[] 5)) hz3
        have HYT := hide hyt
        clear hyt
        go_wp2_with (at_builtin; refine wp_append_any rfl _ _ rfl w3.heap.size _ [] rfl (OwnY.bare w3) (some ⟨g, o1, none⟩) (lr.take n) cr w.heap.size (by rw [hMt]; rfl) HYT.out ?_ ?_ ?_)
        all_goals first | (first | omega | (simp; done) | (simp; omega) | (rw [hMt]; simp; omega)) | skip
        intro v4 w4 ho4 hg4 _
        obtain ⟨g4, c4, e4, ho4'⟩ := ho4.slice
        rw [hMt] at e4 ho4'
        subst e4
        have HO4 := hide ho4'
        have HG4 := hide hg4
        have hz4 := hg4.size
        clear ho4 hg4 ho4'
        have HS6 := hide (fun (w5 : World) (hg5) => step6 (w5 := w5) hlt HG3.out HD3.out HO3.out HP3.out HO4.out HG4.out hg5)
        have hO5 := (HS6.out _ ⟨rfl, rfl, rfl, Nat.le_refl _, fun _ _ _ => rfl⟩).1
        have HO5 := hide hO5
        clear hO5
        go_wp2_with (at_builtin; refine wp_append_sl rfl _ _ rfl w.heap.size _ cs rfl HO5.out _ (some ⟨g4, 0, none⟩) (n) c4 rfl ?_ ?_ ?_ ?_)
        all_goals first | (first | omega | (simp; done) | (simp at hz4 ⊢; omega)) | skip
        intro v' w' ho' hg'
        have hfin := (HS6.out w' hg').2
        have HF := hide hfin
        have HO6 := hide ho'
        clear hfin ho' hg'
        go_wp2
        go_roundw
        case rel => exact ⟨ls ++ [lr.take n], lr.drop n, o1 + n, cr - n, _, by rw [List.length_append, List.length_singleton, ← HCS.out]; omega, by rw [List.length_drop]; omega, by first | rfl | (rw [List.length_drop]; done) | (rw [List.length_drop, show lr.length - n = 0 by omega]), by rw [List.length_drop]; omega, by omega, by simp only [List.flatten_append, List.flatten_cons, List.flatten_nil, List.append_nil, List.append_assoc, List.take_append_drop]; exact HFl.out, HYd.out, HF.out.1, HO6.out, HF.out.2.1, HF.out.2.2⟩
        case measure => simp; omega
end Go.Proofs.YtanebchmeaomgaaGreatDoor
