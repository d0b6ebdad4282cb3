/-
  What the program's cutTag does.
-/
import Derived.Test.YtfhcniifennfbaaGreatDoorTags
namespace Go.Proofs.YtfhcniifennfbaaGreatDoor
open Go.RowKit M
set_option linter.unusedVariables false

theorem innB_long {l : List UInt8} (h : 10 < l.length) : innB l = false := by simp [innB]; intro h1; omega
theorem innB_bad {l : List UInt8} (k : Nat) (hk : k < l.length) (h : anyB (l[k].toNat : Int) [0] = false) : innB l = false := by
  have : allB l [0] = false := by
    unfold allB
    rw [List.all_eq_false]
    exact ⟨_, List.getElem_mem hk, by simp [h]⟩
  simp [innB, this]
theorem all_take {l : List UInt8} {k : Nat} (hk : k < l.length) (h : allB (l.take k) [0] = true) (h1 : anyB (l[k].toNat : Int) [0] = true) : allB (l.take (k + 1)) [0] = true := by
  rw [List.take_succ_eq_append_getElem hk]
  unfold allB at *
  rw [List.all_append, h]
  simp [h1]
theorem below11 {B b : Nat} {w w1 : World} {v0 v1 v2 v3 v4 v5 v6 v7 v8 v9 v10 : Value} (h : Below B w w1) (hb : B ≤ b) : Below B w (((((((((((w1.setCell ⟨b, 0, none⟩ v0).setCell ⟨b, 1, none⟩ v1).setCell ⟨b, 2, none⟩ v2).setCell ⟨b, 3, none⟩ v3).setCell ⟨b, 4, none⟩ v4).setCell ⟨b, 5, none⟩ v5).setCell ⟨b, 6, none⟩ v6).setCell ⟨b, 7, none⟩ v7).setCell ⟨b, 8, none⟩ v8).setCell ⟨b, 9, none⟩ v9).setCell ⟨b, 10, none⟩ v10) :=
  (((((((((((h.setCell hb _).setCell hb _).setCell hb _).setCell hb _).setCell hb _).setCell hb _).setCell hb _).setCell hb _).setCell hb _).setCell hb _).setCell hb _)

set_option maxRecDepth 100000 in
set_option maxHeartbeats 8000000 in
theorem cutTag_none (t : ByteArray) (w : World) (ht : t.size ≤ 1048576) (hc : cutT t.data.toList = none) :
    Calls Tryz.prog 209 #[.string t] w fun e w' => e = .returned (.tuple #[.agg #[.int .u8 0, .int .u8 0, .int .u8 0, .int .u8 0, .int .u8 0, .int .u8 0, .int .u8 0, .int .u8 0, .int .u8 0, .int .u8 0, .int .i64 0], .string ⟨#[]⟩, .bool false]) ∧ Below w.heap.size w w' := by
  have HP := hide (fun W : World => cutPre_any t 34 W)
  have tl : t.data.toList.length = t.size := Array.length_toList
  have TM := Tm.made w 231
  have B0 : Below w.heap.size w (w.alloc (Obj.cells #[.int .u8 0, .int .u8 0, .int .u8 0, .int .u8 0, .int .u8 0, .int .u8 0, .int .u8 0, .int .u8 0, .int .u8 0, .int .u8 0, .int .i64 0] 231)) := (Below.refl _ _).alloc (Nat.le_refl _) _
  have z0 : (w.alloc (Obj.cells #[.int .u8 0, .int .u8 0, .int .u8 0, .int .u8 0, .int .u8 0, .int .u8 0, .int .u8 0, .int .u8 0, .int .u8 0, .int .u8 0, .int .i64 0] 231)).heap.size = w.heap.size + 1 := by simp
  have HSt : ∀ W : World, Below (w.heap.size + 1) (w.alloc (Obj.cells #[.int .u8 0, .int .u8 0, .int .u8 0, .int .u8 0, .int .u8 0, .int .u8 0, .int .u8 0, .int .u8 0, .int .u8 0, .int .u8 0, .int .i64 0] 231)) W → Tm W w.heap.size [] ∧ Below w.heap.size w W := fun W hb => ⟨TM.next hb (Nat.lt_succ_self _), B0.trans (hb.mono (Nat.le_succ _))⟩
  have HS := hide HSt
  clear TM B0 HSt
  by_cases hh : t.data.toList.head? = some 34
  · skip
    rw [if_pos hh, decide_eq_true hh] at HP
    obtain ⟨u, hu⟩ : ∃ u, t.data.toList.drop 1 = u := ⟨_, rfl⟩
    have hul : u.length ≤ 1048576 := by rw [← hu, List.length_drop]; omega
    have htu : t.data.toList = 34 :: u := by
      cases hd : t.data.toList with
      | nil => rw [hd] at hh; cases hh
      | cons a r =>
        rw [hd] at hh hu
        simp at hh hu
        rw [hh, hu]
    rw [htu] at hc
    have HK := hide (fun W : World => cut_any (bytesOf u) 34 W (by rw [bytesOf_size]; unfold maxLen; omega))
    have e2 : (bytesOf u).data.toList = u := rfl
    rw [e2] at HK
    rw [hu] at HP
    clear hu hh tl e2 htu
    by_cases hf : fromB 34 u = []
    · rw [hf] at HK
      clear hc
      go_enter Tryz.func209, Tryz.ntmps209
      go_wp2_with fail
      refine (HP.out _).mono ?_
      rintro e w1 ⟨rfl, hw⟩
      obtain rfl := hw.symm
      go_wp2_with fail
      refine (HK.out _).mono ?_
      rintro e w1 ⟨rfl, b1⟩
      rw [z0] at b1
      obtain ⟨T1, B1⟩ := HS.out w1 b1
      have H := hide B1
      have d0 := T1.bs 0 (by decide)
      have d1 := T1.bs 1 (by decide)
      have d2 := T1.bs 2 (by decide)
      have d3 := T1.bs 3 (by decide)
      have d4 := T1.bs 4 (by decide)
      have d5 := T1.bs 5 (by decide)
      have d6 := T1.bs 6 (by decide)
      have d7 := T1.bs 7 (by decide)
      have d8 := T1.bs 8 (by decide)
      have d9 := T1.bs 9 (by decide)
      have d10 := T1.us
      have dz := T1.fz
      clear T1 B1 b1 HK HP HS
      go_wp2
      refine bodyPost_ret (v := .tuple #[.agg #[.int .u8 0, .int .u8 0, .int .u8 0, .int .u8 0, .int .u8 0, .int .u8 0, .int .u8 0, .int .u8 0, .int .u8 0, .int .u8 0, .int .i64 0], .string ⟨#[]⟩, .bool false]) (by simp [results, Tryz.results209, go_sem, d0, d1, d2, d3, d4, d5, d6, d7, d8, d9, d10]) rfl ⟨rfl, below11 H.out (Nat.le_refl _)⟩
    · skip
      have hfe : (!(fromB 34 u).isEmpty) = true := by
        cases hq : fromB 34 u with
        | nil => exact absurd hq hf
        | cons _ _ => rfl
      rw [hfe] at HK
      have hml : (upTo 34 u).length ≤ u.length := by
        have := congrArg List.length (upTo_from 34 u)
        rw [List.length_append] at this
        omega
      rw [cutT, if_pos rfl, if_neg hf] at hc
      obtain ⟨m, hm⟩ : ∃ m, upTo 34 u = m := ⟨_, rfl⟩
      obtain ⟨y', hy'⟩ : ∃ y', (fromB 34 u).tail = y' := ⟨_, rfl⟩
      rw [hm] at HK hml hc
      rw [hy'] at HK hc
      clear hm hf hfe
      have hin : innB m = false := by
        cases hi : innB m
        · rfl
        · rw [hi, if_pos rfl] at hc; cases hc
      have HIN := hide hin
      clear hc hin hy'
      obtain ⟨n, hn⟩ : ∃ n, m.length = n := ⟨_, rfl⟩
      have hsz : (bytesOf m).size = n := by rw [bytesOf_size, hn]
      have hnb : n ≤ 1048576 := by omega
      have HN := hide hn
      clear hn hml
      go_enter Tryz.func209, Tryz.ntmps209
      go_wp2_with fail
      refine (HP.out _).mono ?_
      rintro e w1 ⟨rfl, hw⟩
      obtain rfl := hw.symm
      go_wp2_with fail
      refine (HK.out _).mono ?_
      rintro e w1 ⟨rfl, b1⟩
      rw [z0] at b1
      obtain ⟨T1, B1⟩ := HS.out w1 b1
      have z1 := b1.size
      rw [z0] at z1
      have TM1 := Tm.made w1 231
      have T1' := T1.alloc (Obj.cells #[.int .u8 0, .int .u8 0, .int .u8 0, .int .u8 0, .int .u8 0, .int .u8 0, .int .u8 0, .int .u8 0, .int .u8 0, .int .u8 0, .int .i64 0] 231)
      have B1' : Below w.heap.size w (w1.alloc (Obj.cells #[.int .u8 0, .int .u8 0, .int .u8 0, .int .u8 0, .int .u8 0, .int .u8 0, .int .u8 0, .int .u8 0, .int .u8 0, .int .u8 0, .int .i64 0] 231)) := B1.alloc B1.size _
      have HI0 := hide (And.intro TM1 (And.intro T1' B1'))
      clear TM1 T1' B1' T1 B1 b1 HK HP HS
      go_wp2
      go_loopw [11] (fun i wr => ∃ k : Nat, k ≤ n ∧ k ≤ 10 ∧ i = .int .i64 k ∧ allB (m.take k) [0] = true ∧ Tm wr w1.heap.size (m.take k) ∧ Tm wr w.heap.size [] ∧ Below w.heap.size w wr) (fun i _ => n - (intOf i).toNat)
      case atStart => exact ⟨0, Nat.zero_le _, Nat.zero_le _, rfl, rfl, HI0.out.1, HI0.out.2.1, HI0.out.2.2⟩
      case round =>
        obtain ⟨k, hk, hk10, rfl, hal, hTm, hTr, hbe⟩ := hrel
        have HA := hide hal
        have HM := hide hTm
        have HTR := hide hTr
        have HB := hide hbe
        clear hal hTm hTr hbe HI0
        by_cases hlt : k < n
        · have hks : k < (bytesOf m).size := by rw [hsz]; exact hlt
          have hkl : k < m.length := by rw [HN.out]; exact hlt
          have hgt : (bytesOf m)[k] = m[k] := rfl
          have hlen : (m.take k).length = k := by rw [List.length_take]; omega
          by_cases h10 : k = 10
          · skip
            have HY := hide (add_full w1.heap.size (m.take k) ((bytesOf m)[k]) wr HM.out (by omega))
            clear hgt hlen h10
            go_wp2_with fail
            refine HY.out.mono ?_
            rintro e w2 ⟨rfl, b2⟩
            have T2 := HTR.out.next b2 (by omega)
            have H := hide (HB.out.trans (b2.mono (by omega)))
            have d0 := T2.bs 0 (by decide)
            have d1 := T2.bs 1 (by decide)
            have d2 := T2.bs 2 (by decide)
            have d3 := T2.bs 3 (by decide)
            have d4 := T2.bs 4 (by decide)
            have d5 := T2.bs 5 (by decide)
            have d6 := T2.bs 6 (by decide)
            have d7 := T2.bs 7 (by decide)
            have d8 := T2.bs 8 (by decide)
            have d9 := T2.bs 9 (by decide)
            have d10 := T2.us
            have dz := T2.fz
            clear T2 HM HTR HB HA b2 HY
            go_wp2
            refine bodyPost_ret (v := .tuple #[.agg #[.int .u8 0, .int .u8 0, .int .u8 0, .int .u8 0, .int .u8 0, .int .u8 0, .int .u8 0, .int .u8 0, .int .u8 0, .int .u8 0, .int .i64 0], .string ⟨#[]⟩, .bool false]) (by simp [results, Tryz.results209, go_sem, d0, d1, d2, d3, d4, d5, d6, d7, d8, d9, d10]) rfl ⟨rfl, below11 H.out (Nat.le_refl _)⟩
          · cases hp : anyB ((bytesOf m)[k].toNat : Int) [0]
            · skip
              have HY := hide (add_no w1.heap.size (m.take k) ((bytesOf m)[k]) wr HM.out (by omega) hp)
              clear hgt hlen hp h10
              go_wp2_with fail
              refine HY.out.mono ?_
              rintro e w2 ⟨rfl, b2⟩
              have T2 := HTR.out.next b2 (by omega)
              have H := hide (HB.out.trans (b2.mono (by omega)))
              have d0 := T2.bs 0 (by decide)
              have d1 := T2.bs 1 (by decide)
              have d2 := T2.bs 2 (by decide)
              have d3 := T2.bs 3 (by decide)
              have d4 := T2.bs 4 (by decide)
              have d5 := T2.bs 5 (by decide)
              have d6 := T2.bs 6 (by decide)
              have d7 := T2.bs 7 (by decide)
              have d8 := T2.bs 8 (by decide)
              have d9 := T2.bs 9 (by decide)
              have d10 := T2.us
              have dz := T2.fz
              clear T2 HM HTR HB HA b2 HY
              go_wp2
              refine bodyPost_ret (v := .tuple #[.agg #[.int .u8 0, .int .u8 0, .int .u8 0, .int .u8 0, .int .u8 0, .int .u8 0, .int .u8 0, .int .u8 0, .int .u8 0, .int .u8 0, .int .i64 0], .string ⟨#[]⟩, .bool false]) (by simp [results, Tryz.results209, go_sem, d0, d1, d2, d3, d4, d5, d6, d7, d8, d9, d10]) rfl ⟨rfl, below11 H.out (Nat.le_refl _)⟩
            · have HY := hide (add_yes w1.heap.size (m.take k) ((bytesOf m)[k]) wr HM.out (by omega) hp)
              have H10 := hide (show k + 1 ≤ 10 by omega)
              have HA2 := hide (all_take hkl HA.out hp)
              have e3 : m.take k ++ [(bytesOf m)[k]] = m.take (k + 1) := by rw [List.take_succ_eq_append_getElem hkl]; rfl
              rw [e3] at HY
              clear hgt hlen hp e3 h10
              go_wp2_with fail
              refine HY.out.mono ?_
              rintro e w2 ⟨rfl, t2, b2⟩
              have r2 := HTR.out.next b2 (by omega)
              have B2 := HB.out.trans (b2.mono (by omega))
              go_wp2
              go_roundw
              case rel => exact ⟨k + 1, by omega, H10.out, by go_num, HA2.out, t2, r2, B2⟩
              case measure => simp [intOf]; omega
        · have hkn : k = n := by omega
          exact absurd (show innB m = true by
            have := HA.out
            rw [List.take_of_length_le (by have := HN.out; omega)] at this
            simp [innB, this]
            have := HN.out
            omega) (by rw [HIN.out]; simp)
  · rw [if_neg hh, decide_eq_false hh] at HP
    have HK := hide (fun W : World => cut_any (bytesOf t.data.toList) 34 W (by rw [bytesOf_size]; unfold maxLen; omega))
    obtain ⟨x0, hx0⟩ : ∃ x, bytesOf (upTo 34 (bytesOf t.data.toList).data.toList) = x := ⟨_, rfl⟩
    obtain ⟨x1, hx1⟩ : ∃ x, bytesOf (fromB 34 (bytesOf t.data.toList).data.toList).tail = x := ⟨_, rfl⟩
    obtain ⟨x2, hx2⟩ : ∃ x, (!(fromB 34 (bytesOf t.data.toList).data.toList).isEmpty) = x := ⟨_, rfl⟩
    rw [hx0, hx1, hx2] at HK
    clear hx0 hx1 hx2 hc hh tl
    go_enter Tryz.func209, Tryz.ntmps209
    go_wp2_with fail
    refine (HP.out _).mono ?_
    rintro e w1 ⟨rfl, hw⟩
    obtain rfl := hw.symm
    go_wp2_with fail
    refine (HK.out _).mono ?_
    rintro e w1 ⟨rfl, b1⟩
    rw [z0] at b1
    obtain ⟨T1, B1⟩ := HS.out w1 b1
    have H := hide B1
    have d0 := T1.bs 0 (by decide)
    have d1 := T1.bs 1 (by decide)
    have d2 := T1.bs 2 (by decide)
    have d3 := T1.bs 3 (by decide)
    have d4 := T1.bs 4 (by decide)
    have d5 := T1.bs 5 (by decide)
    have d6 := T1.bs 6 (by decide)
    have d7 := T1.bs 7 (by decide)
    have d8 := T1.bs 8 (by decide)
    have d9 := T1.bs 9 (by decide)
    have d10 := T1.us
    have dz := T1.fz
    clear T1 B1 b1 HK HP HS
    go_wp2
    refine bodyPost_ret (v := .tuple #[.agg #[.int .u8 0, .int .u8 0, .int .u8 0, .int .u8 0, .int .u8 0, .int .u8 0, .int .u8 0, .int .u8 0, .int .u8 0, .int .u8 0, .int .i64 0], .string ⟨#[]⟩, .bool false]) (by simp [results, Tryz.results209, go_sem, d0, d1, d2, d3, d4, d5, d6, d7, d8, d9, d10]) rfl ⟨rfl, below11 H.out (Nat.le_refl _)⟩

set_option maxRecDepth 100000 in
set_option maxHeartbeats 8000000 in
theorem cutTag_some (t : ByteArray) (m y : List UInt8) (w : World) (ht : t.size ≤ 1048576) (hc : cutT t.data.toList = some (m, y)) :
    Calls Tryz.prog 209 #[.string t] w fun e w' => e = .returned (.tuple #[.agg #[.int .u8 (vT m 0), .int .u8 (vT m 1), .int .u8 (vT m 2), .int .u8 (vT m 3), .int .u8 (vT m 4), .int .u8 (vT m 5), .int .u8 (vT m 6), .int .u8 (vT m 7), .int .u8 (vT m 8), .int .u8 (vT m 9), .int .i64 (m).length], .string (bytesOf y), .bool true]) ∧ Below w.heap.size w w' := by
  have HP := hide (fun W : World => cutPre_any t 34 W)
  have tl : t.data.toList.length = t.size := Array.length_toList
  have TM := Tm.made w 231
  have B0 : Below w.heap.size w (w.alloc (Obj.cells #[.int .u8 0, .int .u8 0, .int .u8 0, .int .u8 0, .int .u8 0, .int .u8 0, .int .u8 0, .int .u8 0, .int .u8 0, .int .u8 0, .int .i64 0] 231)) := (Below.refl _ _).alloc (Nat.le_refl _) _
  have z0 : (w.alloc (Obj.cells #[.int .u8 0, .int .u8 0, .int .u8 0, .int .u8 0, .int .u8 0, .int .u8 0, .int .u8 0, .int .u8 0, .int .u8 0, .int .u8 0, .int .i64 0] 231)).heap.size = w.heap.size + 1 := by simp
  have HSt : ∀ W : World, Below (w.heap.size + 1) (w.alloc (Obj.cells #[.int .u8 0, .int .u8 0, .int .u8 0, .int .u8 0, .int .u8 0, .int .u8 0, .int .u8 0, .int .u8 0, .int .u8 0, .int .u8 0, .int .i64 0] 231)) W → Tm W w.heap.size [] ∧ Below w.heap.size w W := fun W hb => ⟨TM.next hb (Nat.lt_succ_self _), B0.trans (hb.mono (Nat.le_succ _))⟩
  have HS := hide HSt
  clear TM B0 HSt
  by_cases hh : t.data.toList.head? = some 34
  · skip
    rw [if_pos hh, decide_eq_true hh] at HP
    obtain ⟨u, hu⟩ : ∃ u, t.data.toList.drop 1 = u := ⟨_, rfl⟩
    have hul : u.length ≤ 1048576 := by rw [← hu, List.length_drop]; omega
    have htu : t.data.toList = 34 :: u := by
      cases hd : t.data.toList with
      | nil => rw [hd] at hh; cases hh
      | cons a r =>
        rw [hd] at hh hu
        simp at hh hu
        rw [hh, hu]
    rw [htu] at hc
    have HK := hide (fun W : World => cut_any (bytesOf u) 34 W (by rw [bytesOf_size]; unfold maxLen; omega))
    have e2 : (bytesOf u).data.toList = u := rfl
    rw [e2] at HK
    rw [hu] at HP
    clear hu hh tl e2 htu
    by_cases hf : fromB 34 u = []
    · rw [cutT, if_pos rfl, if_pos hf] at hc; cases hc
    · skip
      have hfe : (!(fromB 34 u).isEmpty) = true := by
        cases hq : fromB 34 u with
        | nil => exact absurd hq hf
        | cons _ _ => rfl
      rw [hfe] at HK
      have hml : (upTo 34 u).length ≤ u.length := by
        have := congrArg List.length (upTo_from 34 u)
        rw [List.length_append] at this
        omega
      rw [cutT, if_pos rfl, if_neg hf] at hc
      obtain ⟨m', hm⟩ : ∃ m', upTo 34 u = m' := ⟨_, rfl⟩
      obtain ⟨y', hy'⟩ : ∃ y', (fromB 34 u).tail = y' := ⟨_, rfl⟩
      rw [hm] at HK hml hc
      rw [hy'] at HK hc
      clear hm hf hfe
      have hin : innB m' = true := by
        cases hi : innB m'
        · rw [hi] at hc; simp at hc
        · rfl
      rw [if_pos hin] at hc
      obtain ⟨rfl, rfl⟩ := Prod.mk.inj (Option.some.inj hc)
      have HIN := hide hin
      clear hc hin hy'
      obtain ⟨n, hn⟩ : ∃ n, m'.length = n := ⟨_, rfl⟩
      have hsz : (bytesOf m').size = n := by rw [bytesOf_size, hn]
      have hnb : n ≤ 1048576 := by omega
      have HN := hide hn
      clear hn hml
      go_enter Tryz.func209, Tryz.ntmps209
      go_wp2_with fail
      refine (HP.out _).mono ?_
      rintro e w1 ⟨rfl, hw⟩
      obtain rfl := hw.symm
      go_wp2_with fail
      refine (HK.out _).mono ?_
      rintro e w1 ⟨rfl, b1⟩
      rw [z0] at b1
      obtain ⟨T1, B1⟩ := HS.out w1 b1
      have z1 := b1.size
      rw [z0] at z1
      have TM1 := Tm.made w1 231
      have T1' := T1.alloc (Obj.cells #[.int .u8 0, .int .u8 0, .int .u8 0, .int .u8 0, .int .u8 0, .int .u8 0, .int .u8 0, .int .u8 0, .int .u8 0, .int .u8 0, .int .i64 0] 231)
      have B1' : Below w.heap.size w (w1.alloc (Obj.cells #[.int .u8 0, .int .u8 0, .int .u8 0, .int .u8 0, .int .u8 0, .int .u8 0, .int .u8 0, .int .u8 0, .int .u8 0, .int .u8 0, .int .i64 0] 231)) := B1.alloc B1.size _
      have HI0 := hide (And.intro TM1 (And.intro T1' B1'))
      clear TM1 T1' B1' T1 B1 b1 HK HP HS
      go_wp2
      go_loopw [11] (fun i wr => ∃ k : Nat, k ≤ n ∧ k ≤ 10 ∧ i = .int .i64 k ∧ allB (m'.take k) [0] = true ∧ Tm wr w1.heap.size (m'.take k) ∧ Tm wr w.heap.size [] ∧ Below w.heap.size w wr) (fun i _ => n - (intOf i).toNat)
      case atStart => exact ⟨0, Nat.zero_le _, Nat.zero_le _, rfl, rfl, HI0.out.1, HI0.out.2.1, HI0.out.2.2⟩
      case round =>
        obtain ⟨k, hk, hk10, rfl, hal, hTm, hTr, hbe⟩ := hrel
        have HA := hide hal
        have HM := hide hTm
        have HTR := hide hTr
        have HB := hide hbe
        clear hal hTm hTr hbe HI0
        by_cases hlt : k < n
        · have hks : k < (bytesOf m').size := by rw [hsz]; exact hlt
          have hkl : k < m'.length := by rw [HN.out]; exact hlt
          have hgt : (bytesOf m')[k] = m'[k] := rfl
          have hlen : (m'.take k).length = k := by rw [List.length_take]; omega
          by_cases h10 : k = 10
          · exact absurd HIN.out (by rw [innB_long (by omega)]; simp)
          · cases hp : anyB ((bytesOf m')[k].toNat : Int) [0]
            · exact absurd HIN.out (by rw [innB_bad k hkl hp]; simp)
            · have HY := hide (add_yes w1.heap.size (m'.take k) ((bytesOf m')[k]) wr HM.out (by omega) hp)
              have H10 := hide (show k + 1 ≤ 10 by omega)
              have HA2 := hide (all_take hkl HA.out hp)
              have e3 : m'.take k ++ [(bytesOf m')[k]] = m'.take (k + 1) := by rw [List.take_succ_eq_append_getElem hkl]; rfl
              rw [e3] at HY
              clear hgt hlen hp e3 h10
              go_wp2_with fail
              refine HY.out.mono ?_
              rintro e w2 ⟨rfl, t2, b2⟩
              have r2 := HTR.out.next b2 (by omega)
              have B2 := HB.out.trans (b2.mono (by omega))
              go_wp2
              go_roundw
              case rel => exact ⟨k + 1, by omega, H10.out, by go_num, HA2.out, t2, r2, B2⟩
              case measure => simp [intOf]; omega
        · have hkn : k = n := by omega
          have e4 : m'.take k = m' := List.take_of_length_le (by have := HN.out; omega)
          have T3 := HM.out
          rw [e4] at T3
          have q0 : w.heap.size ≠ w1.heap.size := by omega
          have e0_ : wr.cell? ⟨w1.heap.size, 0, none⟩ = some (.int .u8 (vT m' 0)) := T3.bs 0 (by decide)
          have e1_ : wr.cell? ⟨w1.heap.size, 1, none⟩ = some (.int .u8 (vT m' 1)) := T3.bs 1 (by decide)
          have e2_ : wr.cell? ⟨w1.heap.size, 2, none⟩ = some (.int .u8 (vT m' 2)) := T3.bs 2 (by decide)
          have e3_ : wr.cell? ⟨w1.heap.size, 3, none⟩ = some (.int .u8 (vT m' 3)) := T3.bs 3 (by decide)
          have e4_ : wr.cell? ⟨w1.heap.size, 4, none⟩ = some (.int .u8 (vT m' 4)) := T3.bs 4 (by decide)
          have e5_ : wr.cell? ⟨w1.heap.size, 5, none⟩ = some (.int .u8 (vT m' 5)) := T3.bs 5 (by decide)
          have e6_ : wr.cell? ⟨w1.heap.size, 6, none⟩ = some (.int .u8 (vT m' 6)) := T3.bs 6 (by decide)
          have e7_ : wr.cell? ⟨w1.heap.size, 7, none⟩ = some (.int .u8 (vT m' 7)) := T3.bs 7 (by decide)
          have e8_ : wr.cell? ⟨w1.heap.size, 8, none⟩ = some (.int .u8 (vT m' 8)) := T3.bs 8 (by decide)
          have e9_ : wr.cell? ⟨w1.heap.size, 9, none⟩ = some (.int .u8 (vT m' 9)) := T3.bs 9 (by decide)
          have e10_ : wr.cell? ⟨w1.heap.size, 10, none⟩ = some (.int .i64 m'.length) := T3.us
          have T2 := HTR.out
          have H := hide HB.out
          have d0 := T2.bs 0 (by decide)
          have d1 := T2.bs 1 (by decide)
          have d2 := T2.bs 2 (by decide)
          have d3 := T2.bs 3 (by decide)
          have d4 := T2.bs 4 (by decide)
          have d5 := T2.bs 5 (by decide)
          have d6 := T2.bs 6 (by decide)
          have d7 := T2.bs 7 (by decide)
          have d8 := T2.bs 8 (by decide)
          have d9 := T2.bs 9 (by decide)
          have d10 := T2.us
          have dz := T2.fz
          clear T2 T3 HM HTR HB HA e4 hkn
          go_wp2
          refine bodyPost_ret (v := .tuple #[.agg #[.int .u8 (vT m' 0), .int .u8 (vT m' 1), .int .u8 (vT m' 2), .int .u8 (vT m' 3), .int .u8 (vT m' 4), .int .u8 (vT m' 5), .int .u8 (vT m' 6), .int .u8 (vT m' 7), .int .u8 (vT m' 8), .int .u8 (vT m' 9), .int .i64 (m').length], .string (bytesOf y'), .bool true]) (by simp [results, Tryz.results209, go_sem, d0, d1, d2, d3, d4, d5, d6, d7, d8, d9, d10]) rfl ⟨rfl, below11 H.out (Nat.le_refl _)⟩
  · exact absurd hc (by
      cases hd : t.data.toList with
      | nil => simp [cutT]
      | cons a r =>
        rw [hd] at hh
        rw [cutT, if_neg (by simpa using hh)]
        simp)
end Go.Proofs.YtfhcniifennfbaaGreatDoor
