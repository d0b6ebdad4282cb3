/-
  The draws of pieces, of their texts, and of pieces bent or not.
-/
import Derived.Test.YtcgmokjnjmefpaaGreatDoorDrawPc
import Derived.Test.YtcgmokjnjmefpaaGreatDoorSpecPieceText
namespace Go.Proofs.YtcgmokjnjmefpaaGreatDoor
open Go.RowKit M
set_option linter.unusedVariables false

theorem OwnP.kept {w w' : World} {B N : Nat} {v : Value} {ps : List Pce} (h : OwnP w B v ps) (hg : w.grownBy w' (some N)) (hN : N < B) : OwnP w' B v ps := by
  have hlt := World.ownsRow.lt h
  refine World.ownsRow.kept h hg ?_
  cases hv : v.ownBlock with
  | none => exact .inl rfl
  | some k => exact .inr (by have := (hlt k hv).1; simp; omega)
theorem OwnP.last {w : World} {B : Nat} {v : Value} {ps : List Pce} {q : Pce} (h : OwnP w B v (ps ++ [q])) : ∃ g cap, v = .slice (some ⟨g, 0, none⟩) (ps.length + 1) cap ∧ w.cell? ⟨g, ps.length * 5, none⟩ = some (.int .i64 q.k) := by
  obtain ⟨a, c, hv, hp⟩ := h.pcs
  obtain ⟨b, o, e, _, hc⟩ := hp (by simp)
  have h1 := (hc ps.length (by simp)).1
  rcases h.2 with ⟨e0, h0⟩ | ⟨g, cap, cur, e1, _⟩
  · simp at h0
  · subst e1
    have hv' : Value.slice (some ⟨g, 0, none⟩) (ps ++ [q]).length cap = .slice a (ps ++ [q]).length c := hv
    cases hv'
    cases e
    refine ⟨_, _, by rw [List.length_append]; rfl, ?_⟩
    rw [Nat.zero_add] at h1
    rw [h1]
    simp

set_option maxRecDepth 100000 in
set_option maxHeartbeats 2000000 in
theorem drawPieceList_any {w : World} {B : Nat} {a : Option Addr} {len : Nat} {zs : List Int} (h : CodeIn w B a len zs) (cap : Nat) :
    Calls Tryz.prog 33 #[.slice a len cap] w fun e w' => (∃ v ps, e = .returned v ∧ OwnP w' w.heap.size v ps ∧ GoodL ps ∧ (∀ p ∈ ps, DrawnP p) ∧ ps.length ≤ 7) ∧ Below w.heap.size w w' := by
  have HN := hide (newDX h cap)
  clear h
  go_enter Tryz.func33, Tryz.ntmps33
  go_wp2_with fail
  refine HN.out.mono ?_
  rintro e w1 ⟨rfl, hd1, b1⟩
  have hlt := hd1.lt
  have D1 := hide (hd1.alloc (Obj.cells #[] 62))
  have O1 := hide (OwnP.made w1 w1.heap.size (Nat.le_refl _))
  have B1 := hide (b1.alloc b1.size (Obj.cells #[] 62))
  clear HN hd1 b1
  go_wp2_with fail
  refine (l1BelowX D1.out 8 (by decide) (by decide)).mono ?_
  rintro e w2 ⟨⟨k, rfl, hk⟩, hd2, hg2⟩
  have D2 := hide hd2
  have O2 := hide (O1.out.kept hg2 hlt)
  have B2 := hide (dc_below B1.out hg2)
  have hz2 : w1.heap.size ≤ w2.heap.size := by have := hg2.size; simp at this; omega
  clear D1 O1 B1 hd2 hg2
  go_wp2
  go_loopw [4, 5] (fun o i wr => ∃ (ps : List Pce) (m : Nat), ps.length + m ≤ 7 ∧ i = .int .i64 m ∧ w1.heap.size ≤ wr.heap.size ∧ OwnP wr w1.heap.size o ps ∧ GoodL ps ∧ (∀ p ∈ ps, DrawnP p) ∧ DX wr w.heap.size a len cap zs ∧ Below w.heap.size w wr) (fun _ i _ => (intOf i).toNat)
  case atStart => exact ⟨[], k, by simp; omega, rfl, hz2, O2.out, trivial, (fun p hp => by cases hp), D2.out, B2.out⟩
  case round =>
    clear O2 D2 B2
    obtain ⟨ps, m, hlm, rfl, hz, ho, hG, hAll, hd, hbe⟩ := hrel
    have HO := hide ho
    have HG := hide hG
    have HAll := hide hAll
    have HD := hide hd
    have HBe := hide hbe
    clear ho hG hAll hd hbe
    by_cases hm : 0 < m
    · have hm' : (0 : Int) < m := by omega
      obtain ⟨ao, co, rfl⟩ := HO.out.slice
      go_wp2_with fail
      refine (l7Draw_any HD.out).mono ?_
      rintro e w3 ⟨⟨p, rfl, hp⟩, hd3, hg3⟩
      have O3 := hide (HO.out.kept hg3 hlt)
      have D3 := hide hd3
      have B3 := hide (dc_below HBe.out hg3)
      have HP := hide hp
      have hz3 : w1.heap.size ≤ w3.heap.size := Nat.le_trans hz hg3.size
      clear HO HD HBe hd3 hg3 hp
      have key : ∀ (g4 cap4 : Nat) (w4 : World), OwnP w4 w1.heap.size (.slice (some ⟨g4, 0, none⟩) (ps.length + 1) cap4) (ps ++ [p]) → Below w1.heap.size ((w3.alloc (Obj.cells #[.int .i64 p.k, .string p.name, .string p.ns, .bool p.has, .string p.s] 62)).alloc (Obj.cells #[.int .i64 p.k, .string p.name, .string p.ns, .bool p.has, .string p.s] 62)) w4 → DX w4 w.heap.size a len cap zs ∧ Below w.heap.size w w4 ∧ w1.heap.size ≤ w4.heap.size := fun g4 cap4 w4 o4 b4 => by
        have hs := b4.size
        simp at hs
        refine ⟨((D3.out.alloc _).alloc _).other b4.size (fun j hj => b4.block j (by omega)), ((B3.out.alloc B3.out.size _).alloc (by have := B3.out.size; simp; omega) _).trans (b4.mono (by omega)), by omega⟩
      have KEY := hide key
      clear key
      have snoc : (p.k = 4 → ∀ q, ps.getLast? = some q → q.k ≠ 4) → GoodL (ps ++ [p]) ∧ ∀ x ∈ ps ++ [p], DrawnP x := fun hq => ⟨HG.out.snoc HP.out.1 hq, fun x hx => by
        rcases List.mem_append.1 hx with hx | hx
        · exact HAll.out x hx
        · simp at hx; subst hx; exact HP.out⟩
      have SNOC := hide snoc
      clear snoc
      have O3b := hide ((O3.out.alloc (Obj.cells #[.int .i64 p.k, .string p.name, .string p.ns, .bool p.has, .string p.s] 62)).alloc (Obj.cells #[.int .i64 p.k, .string p.name, .string p.ns, .bool p.has, .string p.s] 62))
      by_cases hk4 : p.k = 4
      · by_cases hps : ps = []
        · subst hps
          have hn4 : (p.k != 4) = false := by simp [hk4]
          have HS := hide (SNOC.out (fun _ q hq => by cases hq))
          clear SNOC hk4
          go_wp2_with (at_builtin; refine wp_append_piece rfl _ _ rfl w1.heap.size _ [] rfl O3b.out _ p rfl ?_ ?_ ?_ ?_ ?_ ?_ ?_ ?_)
          · simp
          · simp
          · simp
          · simp
          · simp
          · first | (simp; done) | (simp at hlm ⊢; omega)
          · simp; omega
          intro g4 cap4 w4 o4 b4 _
          have o5 : OwnP w4 w1.heap.size (.slice (some ⟨g4, 0, none⟩) (([] : List Pce).length + 1) cap4) ([] ++ [p]) := by first | exact o4 | simpa using o4
          obtain ⟨d4, bb4, z4⟩ := KEY.out g4 cap4 w4 o5 b4
          have O4 := hide o5
          have D4 := hide d4
          have B4 := hide bb4
          clear o4 o5 d4 bb4 b4 O3b O3 KEY
          go_wp2
          go_roundw
          case rel => exact ⟨[] ++ [p], m - 1, by simp at hlm ⊢; omega, by (congr 1; omega), z4, by first | exact O4.out | simpa using O4.out, HS.out.1, HS.out.2, D4.out, B4.out⟩
          case measure => simp [intOf]; omega
        · obtain ⟨qs, q, rfl⟩ : ∃ qs q, ps = qs ++ [q] := ⟨ps.dropLast, ps.getLast hps, (List.dropLast_concat_getLast hps).symm⟩
          obtain ⟨g, c9, hv9, hc9⟩ := O3.out.last
          have hg9 : g < w3.heap.size := ((World.ownsRow.lt O3.out) g (by rw [hv9]; rfl)).2
          obtain ⟨rfl, rfl⟩ : ao = some ⟨g, 0, none⟩ ∧ co = c9 := by rw [List.length_append] at hv9; cases hv9; exact ⟨rfl, rfl⟩
          have hn4 : (p.k != 4) = false := by simp [hk4]
          have hl9 : (qs ++ [q]).length = qs.length + 1 := by simp
          clear hv9 hps
          by_cases hq4 : q.k = 4
          · have hq4' : (q.k != 4) = false := by simp [hq4]
            clear hk4 hq4 SNOC KEY O3b
            have O3c := hide (O3.out.alloc (Obj.cells #[.int .i64 p.k, .string p.name, .string p.ns, .bool p.has, .string p.s] 62))
            have D3c := hide (D3.out.alloc (Obj.cells #[.int .i64 p.k, .string p.name, .string p.ns, .bool p.has, .string p.s] 62))
            have B3c := hide (B3.out.alloc B3.out.size (Obj.cells #[.int .i64 p.k, .string p.name, .string p.ns, .bool p.has, .string p.s] 62))
            rw [hl9] at O3c ⊢
            clear O3 D3 B3
            go_wp2
            go_roundw
            case rel => exact ⟨qs ++ [q], m - 1, by omega, by (congr 1; omega), by simp; omega, by rw [hl9] at *; exact O3c.out, HG.out, HAll.out, D3c.out, B3c.out⟩
            case measure => simp [intOf]; omega
          · have hq4' : (q.k != 4) = true := by simp [hq4]
            have HS := hide (SNOC.out (fun _ q' hq' => by simp at hq'; subst hq'; exact hq4))
            clear hk4 hq4 SNOC
            rw [hl9] at O3b ⊢
            go_wp2_with (at_builtin; refine wp_append_piece rfl _ _ rfl w1.heap.size _ (qs ++ [q]) rfl O3b.out _ p rfl ?_ ?_ ?_ ?_ ?_ ?_ ?_ ?_)
            · simp
            · simp
            · simp
            · simp
            · simp
            · first | (simp; done) | (simp at hlm ⊢; omega)
            · simp; omega
            intro g4 cap4 w4 o4 b4 _
            have o5 : OwnP w4 w1.heap.size (.slice (some ⟨g4, 0, none⟩) ((qs ++ [q]).length + 1) cap4) ((qs ++ [q]) ++ [p]) := by first | exact o4 | simpa using o4
            obtain ⟨d4, bb4, z4⟩ := KEY.out g4 cap4 w4 o5 b4
            have O4 := hide o5
            have D4 := hide d4
            have B4 := hide bb4
            clear o4 o5 d4 bb4 b4 O3b O3 KEY
            go_wp2
            go_roundw
            case rel => exact ⟨(qs ++ [q]) ++ [p], m - 1, by simp at hlm ⊢; omega, by (congr 1; omega), z4, by first | exact O4.out | simpa using O4.out, HS.out.1, HS.out.2, D4.out, B4.out⟩
            case measure => simp [intOf]; omega
      · have hn4 : (p.k != 4) = true := by simp [hk4]
        have HS := hide (SNOC.out (fun h => absurd h hk4))
        clear SNOC hk4
        go_wp2_with (at_builtin; refine wp_append_piece rfl _ _ rfl w1.heap.size _ ps rfl O3b.out _ p rfl ?_ ?_ ?_ ?_ ?_ ?_ ?_ ?_)
        · simp
        · simp
        · simp
        · simp
        · simp
        · first | (simp; done) | (simp at hlm ⊢; omega)
        · simp; omega
        intro g4 cap4 w4 o4 b4 _
        have o5 : OwnP w4 w1.heap.size (.slice (some ⟨g4, 0, none⟩) (ps.length + 1) cap4) (ps ++ [p]) := by first | exact o4 | simpa using o4
        obtain ⟨d4, bb4, z4⟩ := KEY.out g4 cap4 w4 o5 b4
        have O4 := hide o5
        have D4 := hide d4
        have B4 := hide bb4
        clear o4 o5 d4 bb4 b4 O3b O3 KEY
        go_wp2
        go_roundw
        case rel => exact ⟨ps ++ [p], m - 1, by simp at hlm ⊢; omega, by (congr 1; omega), z4, by first | exact O4.out | simpa using O4.out, HS.out.1, HS.out.2, D4.out, B4.out⟩
        case measure => simp [intOf]; omega
    · have hm0 : m = 0 := by omega
      subst hm0
      go_wp2
      go_ret
      exact ⟨⟨_, ps, rfl, HO.out.base (by omega), HG.out, HAll.out, by omega⟩, HBe.out⟩

/-- A drawn piece may be told. -/
theorem DrawnP.fits {p : Pce} (h : DrawnP p) : p.name.size ≤ 1099511627776 ∧ p.ns.size ≤ 1099511627776 ∧ p.s.size ≤ 1099511627776 := by
  obtain ⟨_, _, h1, h2, h3⟩ := h
  omega
theorem markT_len (p : Pce) : (markT p).length ≤ 20 + p.name.size + 6 * p.ns.size + 6 * p.s.size := by
  have h1 : p.name.data.toList.length = p.name.size := Array.length_toList
  have h2 : p.ns.data.toList.length = p.ns.size := Array.length_toList
  have h3 : p.s.data.toList.length = p.s.size := Array.length_toList
  have h4 := escL_le p.ns.data.toList
  have h5 := escL_le p.s.data.toList
  have h6 : (spcT p).length ≤ 9 + 6 * p.ns.size := by
    unfold spcT
    split
    · simp [spcS]; omega
    · simp
  unfold markT
  split; · simp; omega
  split; · simp; omega
  split; · simp; omega
  · omega
theorem DrawnP.len {p : Pce} (h : DrawnP p) : (markT p).length ≤ 280 := by
  have := markT_len p
  obtain ⟨_, _, h1, h2, h3⟩ := h
  omega

def pcsD : List ByteArray := [⟨#[60]⟩, ⟨#[60, 97]⟩, ⟨#[60, 97, 32, 62]⟩, ⟨#[60, 49, 62]⟩, ⟨#[60, 47, 97, 47, 62]⟩, ⟨#[60, 97, 32, 120, 109, 108, 110, 115, 61, 62]⟩, ⟨#[60, 97, 32, 120, 109, 108, 110, 115, 61, 34, 120, 62]⟩, ⟨#[60, 65, 62]⟩, ⟨#[1]⟩, ⟨#[60, 97, 32, 98, 61, 34, 99, 34, 62]⟩, ⟨#[60, 47, 62]⟩, ⟨#[60, 97, 32, 120, 109, 108, 110, 115, 61, 34, 38, 108, 116, 59, 34, 47, 62]⟩, ⟨#[38]⟩, ⟨#[60, 97, 32, 120, 109, 108, 110, 115, 61, 34, 116, 119, 101, 110, 116, 121, 45, 111, 110, 101, 45, 98, 121, 116, 101, 115, 45, 115, 112, 97, 99, 101, 115, 34, 62]⟩]
theorem pcsD_ok : ∀ s ∈ pcsD, s.size ≤ 100 := by decide

set_option maxRecDepth 100000 in
set_option maxHeartbeats 2000000 in
theorem drawPieces_any {w : World} {B : Nat} {a : Option Addr} {len : Nat} {zs : List Int} (h : CodeIn w B a len zs) (cap : Nat) :
    Calls Tryz.prog 36 #[.slice a len cap] w fun e w' => (∃ s : ByteArray, e = .returned (.string s) ∧ s.size ≤ 10000) ∧ Below w.heap.size w w' := by
  have HN := hide (newDX h cap)
  clear h
  go_enter Tryz.func36, Tryz.ntmps36
  go_wp2_with fail
  refine HN.out.mono ?_
  rintro e w1 ⟨rfl, hd1, b1⟩
  have D1 := hide hd1
  have B1 := hide b1
  clear HN hd1 b1
  go_wp2_with fail
  refine (l1BelowX D1.out 5 (by decide) (by decide)).mono ?_
  rintro e w2 ⟨⟨k, rfl, hk⟩, hd2, hg2⟩
  have D2 := hide hd2
  have B2 := hide (dc_below B1.out hg2)
  clear D1 B1 hd2 hg2
  go_wp2
  go_loopw [4, 5] (fun o i wr => ∃ (s : ByteArray) (m : Nat), o = .string s ∧ i = .int .i64 m ∧ m ≤ 4 ∧ s.size + 280 * m ≤ 1120 ∧ DX wr w.heap.size a len cap zs ∧ Below w.heap.size w wr) (fun _ i _ => (intOf i).toNat)
  case atStart => exact ⟨⟨#[]⟩, k, rfl, rfl, by omega, by have : (⟨#[]⟩ : ByteArray).size = 0 := rfl; omega, D2.out, B2.out⟩
  case round =>
    clear D2 B2
    obtain ⟨s, m, rfl, rfl, hm4, hsm, hd, hbe⟩ := hrel
    have HD := hide hd
    have HBe := hide hbe
    clear hd hbe
    by_cases hm : 0 < m
    · have hm' : (0 : Int) < m := by omega
      go_wp2_with fail
      refine (l7Draw_any HD.out).mono ?_
      rintro e w3 ⟨⟨p, rfl, hp⟩, hd3, hg3⟩
      have D3 := hide hd3
      have B3 := hide (dc_below HBe.out hg3)
      have hpl := hp.len
      have HT := hide (fun W : World => specPieceText_any p W hp.fits.1 hp.fits.2.1 hp.fits.2.2)
      have hz : (bytesOf (markT p)).size ≤ 280 := by rw [bytesOf_size]; exact hpl
      obtain ⟨x, hx⟩ : ∃ x, bytesOf (markT p) = x := ⟨_, rfl⟩
      rw [hx] at HT hz
      clear HD HBe hd3 hg3 hp hpl hx
      go_wp2_with fail
      refine (HT.out _).mono ?_
      rintro e w4 ⟨rfl, b4⟩
      have D4 := hide (D3.out.other b4.size (fun j hj => b4.block j (by have := D3.out.lt; omega)))
      have B4 := hide (B3.out.trans (b4.mono B3.out.size))
      have hq1 : ¬ (9223372036854775807 < s.size + x.size) := by omega
      clear D3 B3 b4
      go_wp2
      go_roundw
      case rel => exact ⟨s ++ x, m - 1, rfl, by (congr 1; omega), by omega, by rw [ByteArray.size_append]; omega, D4.out, B4.out⟩
      case measure => simp [intOf]; omega
    · have hm0 : m = 0 := by omega
      subst hm0
      have hs : s.size ≤ 1120 := by omega
      clear hsm
      go_wp2_with fail
      refine (l1BelowX HD.out 5 (by decide) (by decide)).mono ?_
      rintro e w3 ⟨⟨q, rfl, hq⟩, hd3, hg3⟩
      have D3 := hide hd3
      have B3 := hide (dc_below HBe.out hg3)
      clear HD HBe hd3 hg3
      by_cases q0 : q = 0
      · subst q0
        go_wp2_with fail
        refine (strNewP D3.out (fun s => s.size ≤ 100) pcsD _ _ 14 _ rfl rfl rfl (by decide) (by decide) pcsD_ok).mono ?_
        rintro e w4 ⟨⟨y, rfl, hy⟩, _, hg4⟩
        have B4 := hide (dc_below B3.out hg4)
        have hq1 : ¬ (9223372036854775807 < s.size + y.size) := by omega
        clear hg4
        go_wp2
        go_ret
        exact ⟨⟨_, rfl, by rw [ByteArray.size_append]; omega⟩, B4.out⟩
      · have q0' : ((q : Int) == 0) = false := by rw [beq_eq_false_iff_ne]; omega
        by_cases q1 : q = 1
        · subst q1
          go_wp2_with fail
          refine (onceX7 D3.out 6 (by decide) (by decide)).mono ?_
          rintro e w4 ⟨⟨b, rfl⟩, _, hg4⟩
          have B4 := hide (dc_below B3.out hg4)
          clear hg4
          cases b
          · go_wp2
            go_ret
            exact ⟨⟨_, rfl, by omega⟩, B4.out⟩
          · go_wp2
            go_loop [4, 6] (fun o i => ∃ (t : ByteArray) (j : Nat), o = .string t ∧ i = .int .i64 j ∧ j ≤ 60 ∧ t.size ≤ 1120 + 4 * j) (fun _ i => 60 - (intOf i).toNat)
            case atStart => exact ⟨s, 0, rfl, rfl, by omega, by omega⟩
            case round =>
              obtain ⟨t, j, rfl, rfl, hj, ht⟩ := hrel
              by_cases hj60 : j < 60
              · have hj' : (j : Int) < 60 := by omega
                have hq1 : ¬ (9223372036854775807 < t.size + 4) := by omega
                go_wp2
                go_round
                case rel => exact ⟨_, j + 1, rfl, by go_num, by omega, by rw [ByteArray.size_append]; have : (⟨#[60, 97, 47, 62]⟩ : ByteArray).size = 4 := rfl; omega⟩
                case measure => simp [intOf]; omega
              · have hj' : ¬ (j : Int) < 60 := by omega
                go_wp2
                go_ret
                exact ⟨⟨_, rfl, by omega⟩, B4.out⟩
        · have q1' : ((q : Int) == 1) = false := by rw [beq_eq_false_iff_ne]; omega
          go_wp2
          go_ret
          exact ⟨⟨_, rfl, by omega⟩, B3.out⟩
end Go.Proofs.YtcgmokjnjmefpaaGreatDoor
