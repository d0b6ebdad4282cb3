/-
  What spec.l13Copy does.
-/
import Derived.Test.YtclnpfpaabmkcaaLockRows
import Derived.Test.YtclnpfpaabmkcaaAppendT
import Derived.Test.YtclnpfpaabmkcaaRowVLks
namespace Go.Proofs.Ytclnpfpaabmkcaa
open Go.RowKit M
set_option linter.unusedVariables false

theorem RowV.hp {w w' : World} {g : Nat} {ts : List LkT} (h : RowV w g ts) (hz : w.heap.size ≤ w'.heap.size) (e : w'.heap[g]? = w.heap[g]?) : RowV w' g ts :=
  h.of (Nat.lt_of_lt_of_le h.1 hz) (fun o => by simp only [World.cell?, e]) (fun o => by simp only [World.frozen?, e])
/-- Its paths, each in a block of its own choosing, none of them g. -/
def PathsV (w : World) (lo g : Nat) (ts : List LkT) : Prop := ∀ t ∈ ts, ∃ p, t.pa = some ⟨p, 0, none⟩ ∧ RowS w p t.r.pa ∧ p ≠ g ∧ lo ≤ p ∧ t.r.pa.length ≤ t.pc ∧ t.pc ≤ maxLen
theorem PathsV.next {w w' : World} {lo g : Nat} {ts : List LkT} (h : PathsV w lo g ts) (hb : Below w.heap.size w w') : PathsV w' lo g ts := fun t ht => by
  obtain ⟨p, h1, h2, h3⟩ := h t ht
  exact ⟨p, h1, h2.below hb, h3⟩
theorem PathsV.keepB {w w' : World} {lo g g' : Nat} {ts : List LkT} (h : PathsV w lo g ts) (hz : w.heap.size ≤ w'.heap.size) (e : ∀ x, x < w.heap.size → x ≠ g → w'.heap[x]? = w.heap[x]?) (hg : g' = g ∨ w.heap.size ≤ g') : PathsV w' lo g' ts := fun t ht => by
  obtain ⟨p, h1, h2, h3, h4⟩ := h t ht
  have := h2.1
  exact ⟨p, h1, h2.hp hz (e p h2.1 h3), by omega, h4⟩
theorem PathsV.inV {w : World} {lo g : Nat} {ts : List LkT} (h : PathsV w lo g ts) : InV w w.heap.size ts := fun t ht => by
  obtain ⟨p, h1, h2, h3, _, h4, h5⟩ := h t ht
  rw [h1]
  exact ⟨h2.strs' h2.1, h4, h5, fun e => by cases e⟩

/-- Of what two rows hold: one grows. -/
theorem PickV.next {w w9 : World} {lo g g0 g9 : Nat} {ts0 : List LkT} (hrow : RowV w g0 ts0) (hp : PathsV w lo g ts0) (hne : g0 ≠ g) (hz : w.heap.size ≤ w9.heap.size) (e : ∀ x, x < w.heap.size → x ≠ g → w9.heap[x]? = w.heap[x]?) (hg : g9 = g ∨ w.heap.size ≤ g9) : RowV w9 g0 ts0 ∧ PathsV w9 lo g9 ts0 ∧ g0 ≠ g9 :=
  ⟨hrow.hp hz (e g0 hrow.1 hne), hp.keepB hz e hg, by have := hrow.1; omega⟩
set_option maxRecDepth 100000 in
set_option maxHeartbeats 4000000 in
theorem l13Copy_own (a : Option Addr) (l : List Lk) (cap B : Nat) (w : World) (h : Lks w B a l) (hB : B ≤ w.heap.size) (hl : l.length ≤ 1048577) (hs : ∀ r ∈ l, r.pa.length ≤ 1048576) :
    Calls Try.prog 19 #[.slice a l.length cap] w fun e w' => (∃ (g c : Nat) (ts : List LkT), e = .returned (.slice (some ⟨g, 0, none⟩) l.length c) ∧ ts.map (·.r) = l ∧ RowV w' g ts ∧ PathsV w' w.heap.size g ts ∧ w.heap.size ≤ g ∧ l.length ≤ c ∧ c ≤ maxLen ∧ OwnT w' w.heap.size (.slice (some ⟨g, 0, none⟩) l.length c) ts) ∧ Below w.heap.size w w' := by
  have HH := hide h
  have HS := hide hs
  have HO := hide (OwnT.made w w.heap.size (Nat.le_refl _))
  clear h hs
  go_enter Try.func19, Try.ntmps19
  go_wp2
  go_loopw [3, 4] (fun v i wr => ∃ (k g c : Nat) (ts : List LkT), k ≤ l.length ∧ i = .int .i64 k ∧ v = .slice (some ⟨g, 0, none⟩) k c ∧ Hid (OwnT wr w.heap.size (.slice (some ⟨g, 0, none⟩) k c) ts) ∧ Hid (ts.map (·.r) = l.take k) ∧ Hid (PathsV wr w.heap.size g ts) ∧ Below w.heap.size w wr) (fun _ i _ => l.length - (intOf i).toNat)
  case atStart => exact ⟨0, _, _, [], Nat.zero_le _, rfl, rfl, HO, (by show _ = _; simp), (fun t ht => by cases ht), (Below.refl _ _).alloc (Nat.le_refl _) _⟩
  case round =>
    obtain ⟨k, g, c, ts, hk, rfl, rfl, HOW, HTS, HPV, hbe⟩ := hrel
    by_cases hlt : k < l.length
    · obtain ⟨b, o, rfl, hb, hc⟩ := (HH.out.below hbe hB) (by omega)
      obtain ⟨pa, pc, ⟨hc0, hc1, hc2, hc3, hc4⟩, hin⟩ := hc k hlt
      have hBr := Nat.le_trans hB hbe.size
      have b1 := (Below.refl wr.heap.size wr).alloc (Nat.le_refl _) (Obj.cells #[.int .i64 l[k].tk, .slice pa l[k].pa.length pc, .bool l[k].de, .bool l[k].sh, .int .i64 l[k].un] 27)
      have b2 := b1.alloc b1.size (Obj.cells #[] 9)
      have hown := World.ownsRow_made (e := 9) (size := 1) (base := wr.heap.size + 1) (wr.alloc (Obj.cells #[.int .i64 l[k].tk, .slice pa l[k].pa.length pc, .bool l[k].de, .bool l[k].sh, .int .i64 l[k].un] 27)) #[] 0 (by simp) (by decide) rfl
      have hz : (wr.alloc (Obj.cells #[.int .i64 l[k].tk, .slice pa l[k].pa.length pc, .bool l[k].de, .bool l[k].sh, .int .i64 l[k].un] 27)).heap.size = wr.heap.size + 1 := by simp
      rw [hz] at hown
      have HOWN := hide hown
      have HX := hide ((BoxV.made wr [.int .i64 l[k].tk, .slice pa l[k].pa.length pc, .bool l[k].de, .bool l[k].sh, .int .i64 l[k].un] 27).alloc (Obj.cells #[] 9))
      have HST := hide ((hin.below b2 hBr).ph)
      have HPN := hide hin.pn
      have HC2 := hide (hbe.trans (b2.mono hbe.size))
      have HF := hide (show l.take (k + 1) = l.take k ++ [l[k]] from List.take_succ_eq_append_getElem hlt)
      have hsx : l[k].pa.length ≤ 1099511627776 := by have := HS.out _ (List.getElem_mem hlt); omega
      have hlow : (wr.heap.size + 1 : Nat) ≤ ((wr.alloc (Obj.cells #[.int .i64 l[k].tk, .slice pa l[k].pa.length pc, .bool l[k].de, .bool l[k].sh, .int .i64 l[k].un] 27)).alloc (Obj.cells #[] 9)).heap.size := by simp
      have HBR := hide hBr
      have hcp := (b2.cell (p := ⟨b, o + k * 5 + 1, none⟩) (by show b < wr.heap.size; omega)).trans hc1
      have hz0 := hbe.size
      have hgx : g < wr.heap.size := (OwnT.row HOW.out).2.1.1
      have hz2 := HC2.out.size
      have hz3 : ((wr.alloc (Obj.cells #[.int .i64 l[k].tk, .slice pa l[k].pa.length pc, .bool l[k].de, .bool l[k].sh, .int .i64 l[k].un] 27)).alloc (Obj.cells #[] 9)).heap.size = wr.heap.size + 1 + 1 := by simp
      have HZ3 := hide hz3
      have hb2b := hide b2
      clear hc hin b1 b2 hown hz hBr hz3
      go_wp2_with (at_builtin; refine wp_append_strs rfl _ _ rfl (wr.heap.size + 1) _ l[k].pa l[k].pa.length rfl rfl HOWN.out B pa pc rfl HST.out HPN.out hsx hlow ?_)
      intro g2 c2 w2 r2 hg2 hc21 hc22 hb2
      have hz2' := hb2.size
      rw [HZ3.out] at hz2'
      have HX2 := hide (show BoxV w2 wr.heap.size [.int .i64 l[k].tk, .slice pa l[k].pa.length pc, .bool l[k].de, .bool l[k].sh, .int .i64 l[k].un] from ⟨by omega, fun i v hv => by rw [hb2.cell (p := ⟨wr.heap.size, i, none⟩) (Nat.lt_succ_self _), hb2.frozen (p := ⟨wr.heap.size, i, none⟩) (Nat.lt_succ_self _)]; exact HX.out.2 i v hv⟩)
      have y0 := (HX2.out.2 0 _ rfl).1
      obtain ⟨y1, f1⟩ := HX2.out.2 1 _ rfl
      have y2 := (HX2.out.2 2 _ rfl).1
      have y3 := (HX2.out.2 3 _ rfl).1
      have y4 := (HX2.out.2 4 _ rfl).1
      obtain ⟨w3, hw3⟩ : ∃ W, w2.setCell ⟨wr.heap.size, 1, none⟩ (.slice (some ⟨g2, 0, none⟩) l[k].pa.length c2) = W := ⟨_, rfl⟩
      have hz4 : w3.heap.size = w2.heap.size := by rw [← hw3]; simp
      have hge : ∀ x, x < wr.heap.size → w3.heap[x]? = wr.heap[x]? := fun x hx => by
        rw [← hw3, Below.heap_setCell _ _ _ _ (by show x ≠ wr.heap.size; omega), hb2.block x (by omega)]
        exact hb2b.out.block x hx
      have HX3 := hide (show BoxV w3 wr.heap.size [.int .i64 l[k].tk, .slice (some ⟨g2, 0, none⟩) l[k].pa.length c2, .bool l[k].de, .bool l[k].sh, .int .i64 l[k].un] by rw [← hw3]; exact HX2.out.set 1 (by simp) _)
      have HC3 := hide (show Below w.heap.size w w3 by rw [← hw3]; exact (HC2.out.trans (hb2.mono (by omega))).setCell (p := ⟨wr.heap.size, 1, none⟩) hbe.size _)
      have HR3 := hide (show RowS w3 g2 l[k].pa by rw [← hw3]; exact r2.setCellL _ _ (by simp; omega))
      have HO3 := hide (HOW.out.keepB (w' := w3) (hge g hgx))
      have HP3 := hide (HPV.out.keepB (w' := w3) (g' := g) (by omega) (fun x hx _ => hge x hx) (.inl rfl))
      have bA := (Below.refl w3.heap.size w3).alloc (Nat.le_refl _) (Obj.cells #[.int .i64 l[k].tk, .slice (some ⟨g2, 0, none⟩) l[k].pa.length c2, .bool l[k].de, .bool l[k].sh, .int .i64 l[k].un] 27)
      have HO4 := hide (HO3.out.next bA)
      have HP4 := hide (HP3.out.next bA)
      have HR4 := hide (HR3.out.below bA)
      have HC4 := hide (HC3.out.trans (bA.mono HC3.out.size))
      have hln : ts.length + 1 ≤ 1099511627776 := by have := (OwnT.row HOW.out).1; omega
      have hs4 := HC4.out.size
      have hz5 : (w3.alloc (Obj.cells #[.int .i64 l[k].tk, .slice (some ⟨g2, 0, none⟩) l[k].pa.length c2, .bool l[k].de, .bool l[k].sh, .int .i64 l[k].un] 27)).heap.size = w3.heap.size + 1 := by simp
      obtain ⟨u0, u1, u2, u3, u4⟩ : w3.cell? ⟨wr.heap.size, 0, none⟩ = some (.int .i64 l[k].tk) ∧ w3.cell? ⟨wr.heap.size, 1, none⟩ = some (.slice (some ⟨g2, 0, none⟩) l[k].pa.length c2) ∧ w3.cell? ⟨wr.heap.size, 2, none⟩ = some (.bool l[k].de) ∧ w3.cell? ⟨wr.heap.size, 3, none⟩ = some (.bool l[k].sh) ∧ w3.cell? ⟨wr.heap.size, 4, none⟩ = some (.int .i64 l[k].un) := ⟨(HX3.out.2 0 _ rfl).1, (HX3.out.2 1 _ rfl).1, (HX3.out.2 2 _ rfl).1, (HX3.out.2 3 _ rfl).1, (HX3.out.2 4 _ rfl).1⟩
      have HN := hide (OwnT.row HOW.out).1
      have HAT := hide (show LkAt (w3.alloc (Obj.cells #[.int .i64 l[k].tk, .slice (some ⟨g2, 0, none⟩) l[k].pa.length c2, .bool l[k].de, .bool l[k].sh, .int .i64 l[k].un] 27)) w2.heap.size 0 l[k] (some ⟨g2, 0, none⟩) c2 by rw [← hz4]; refine ⟨?_, ?_, ?_, ?_, ?_⟩ <;> simp [go_sem])
      have HCC := hide (And.intro hc21 hc22)
      clear bA HOW HPV HO3 HP3 HR3 HC3 hb2 r2 hge HX HX2 HX3 HST HOWN hb2b HC2
      go_wp2_with (at_builtin; refine wp_append_lkT 24 Try.underlying24 rfl _ _ rfl w.heap.size _ ts rfl (by first | exact HO4.out | (rw [hw3]; exact HO4.out)) _ ⟨l[k], some ⟨g2, 0, none⟩, c2⟩ rfl HAT.out hln (by first | exact hs4 | (rw [hw3]; exact hs4)) ?_)
      intro g9 n9 c9 w9 hn9 hO9 hb9 hg9 hat
      obtain ⟨e1, e2, e3, e4, e5⟩ := hO9.row
      have hgn : g9 = g ∨ w3.heap.size + 1 ≤ g9 := by
        rcases hat with e | e
        · exact .inl (Option.some.inj e)
        · have e := Option.some.inj e
          simp at e
          right; omega
      have hkeep : ∀ x, x < w3.heap.size + 1 → x ≠ g → w9.heap[x]? = (w3.alloc (Obj.cells #[.int .i64 l[k].tk, .slice (some ⟨g2, 0, none⟩) l[k].pa.length c2, .bool l[k].de, .bool l[k].sh, .int .i64 l[k].un] 27)).heap[x]? := fun x hx hne => hg9.block x (by rw [hz5]; omega) (fun e => hne (Option.some.inj e))
      have hz9 : w3.heap.size + 1 ≤ w9.heap.size := by have := hg9.size; rw [hz5] at this; exact this
      have HP9 := hide (show PathsV w9 w.heap.size g9 (ts ++ [⟨l[k], some ⟨g2, 0, none⟩, c2⟩]) from fun t ht => by
        rcases List.mem_append.1 ht with h | h
        · exact HP4.out.keepB (by rw [hz5]; exact hz9) (fun x hx hne => hkeep x (by rw [hz5] at hx; exact hx) hne) (by rw [hz5]; exact hgn) t h
        · obtain rfl := List.mem_singleton.1 h
          have h4 := HR4.out.1
          rw [hz5] at h4
          refine ⟨g2, rfl, HR4.out.hp (by rw [hz5]; exact hz9) (hkeep g2 h4 (by omega)), by omega, by omega, HCC.out.1, HCC.out.2⟩)
      have HO9 := hide hO9
      have HB9 := hide (HC4.out.trans hb9)
      have HN9 := hide (show (n9 : Nat) = k + 1 by rw [hn9]; have := HN.out; simp; omega)
      have HT9 := hide (show (ts ++ [(⟨l[k], some ⟨g2, 0, none⟩, c2⟩ : LkT)]).map (·.r) = l.take (k + 1) by rw [HF.out, List.map_append, HTS.out]; rfl)
      clear hO9 hb9 hg9 hn9 hat e1 e2 e3 e4 e5 hgn hkeep HO4 HP4 HR4 HC4 hw3
      rw [HN9.out] at HO9 ⊢
      go_wp2
      go_roundw
      case rel => exact ⟨k + 1, g9, c9, _, by omega, by go_num, rfl, HO9, HT9, HP9, HB9.out⟩
      case measure => simp [intOf]; omega
    · have hkl : k = l.length := by omega
      subst hkl
      obtain ⟨e1, e2, e3, e4, e5⟩ := HOW.out.row
      have HEE := hide (And.intro e2 (And.intro e3 (And.intro e4 e5)))
      have HF := hide (show ts.map (·.r) = l by rw [HTS.out, List.take_length])
      clear e1 e2 e3 e4 e5
      go_wp2
      go_ret
      exact ⟨⟨g, c, ts, rfl, HF.out, HEE.out.1, HPV.out, HEE.out.2.2.2, HEE.out.2.1, HEE.out.2.2.1, HOW.out⟩, hbe⟩
theorem l13Copy_any (a : Option Addr) (l : List Lk) (cap B : Nat) (w : World) (h : Lks w B a l) (hB : B ≤ w.heap.size) (hl : l.length ≤ 1048577) (hs : ∀ r ∈ l, r.pa.length ≤ 1048576) :
    Calls Try.prog 19 #[.slice a l.length cap] w fun e w' => (∃ (g c : Nat) (ts : List LkT), e = .returned (.slice (some ⟨g, 0, none⟩) l.length c) ∧ ts.map (·.r) = l ∧ RowV w' g ts ∧ PathsV w' w.heap.size g ts ∧ w.heap.size ≤ g ∧ l.length ≤ c ∧ c ≤ maxLen) ∧ Below w.heap.size w w' := by
  refine (l13Copy_own a l cap B w h hB hl hs).mono ?_
  rintro e w' ⟨⟨g, c, ts, rfl, h1, h2, h3, h4, h5, h6, _⟩, hb⟩
  exact ⟨⟨g, c, ts, rfl, h1, h2, h3, h4, h5, h6⟩, hb⟩
end Go.Proofs.Ytclnpfpaabmkcaa
