/-
  What the program's Unescape does.
-/
import Derived.Test.YtccehdlgpbeijaaGreatDoorByteCalled
import Derived.Test.YtccehdlgpbeijaaGreatDoorBld
namespace Go.Proofs.YtccehdlgpbeijaaGreatDoor
open Go.RowKit M
set_option linter.unusedVariables false

/-- What byteAhead answers. -/
def AheadIs (l : List UInt8) (e : Ending) : Prop := ∃ (b : UInt8) (t : ByteArray) (ok : Bool), e = .returned (.tuple #[.int .u8 b.toNat, .string t, .bool ok]) ∧ ok = (stepL l).isSome ∧ ∀ c r, stepL l = some (c, r) → b = c ∧ t.data.toList = r

theorem ahead_ret {l : List UInt8} {z : Int} {ok : Bool} (b : UInt8) (t : ByteArray) (hz : z = (b.toNat : Int)) (h1 : ok = (stepL l).isSome) (h2 : ∀ c r, stepL l = some (c, r) → b = c ∧ t.data.toList = r) : AheadIs l (.returned (.tuple #[.int .u8 z, .string t, .bool ok])) := ⟨b, t, ok, by rw [hz], h1, h2⟩

set_option maxRecDepth 100000 in
set_option maxHeartbeats 2000000 in
theorem byteAhead_any (s : ByteArray) (w : World) (hs : s.size ≤ maxLen) (h0 : 0 < s.size) :
    Calls Tryz.prog 103 #[.string s] w fun e w' => AheadIs s.data.toList e ∧ Below w.heap.size w w' := by
  have hsm := hs
  unfold maxLen at hs
  have hcons := drop_cons s 0 h0
  rw [List.drop_zero] at hcons
  have h0' : (0 : Int) < s.size := by omega
  have h1' : (1 : Int) ≤ s.size := by omega
  have e1 := is_u8 s[0] 60 60 rfl
  have e2 := is_u8 s[0] 38 38 rfl
  by_cases h60 : s[0] = 60
  · have HE : Hid (AheadIs s.data.toList (.returned (.tuple #[.int .u8 0, .string ⟨#[]⟩, .bool false]))) := by
      have : stepL s.data.toList = none := by rw [hcons, h60]; exact stepL_open _
      exact ahead_ret 0 _ rfl (by rw [this]; rfl) (by rw [this]; intro c r h; cases h)
    rw [decide_eq_true h60] at e1
    clear h60 e2 hcons
    go_enter Tryz.func103, Tryz.ntmps103
    go_wp2
    go_ret3
    exact ⟨HE.out, Below.refl _ _⟩
  rw [decide_eq_false h60] at e1
  by_cases h38 : s[0] = 38
  · obtain ⟨t, ht⟩ : ∃ t : ByteArray, s.extract 1 s.size = t := ⟨_, rfl⟩
    have htl : t.data.toList = s.data.toList.drop 1 := by rw [← ht]; exact extract_rest s 1
    have hts : t.size ≤ maxLen := by
      have h1 : t.data.toList.length = t.size := Array.length_toList
      have h2 : s.data.toList.length = s.size := Array.length_toList
      rw [htl, List.length_drop] at h1; omega
    have HC := hide (fun W : World => cut_any t 59 W hts)
    have HB := hide (fun (W : World) (h : (bytesOf (upTo 59 t.data.toList)).size ≤ maxLen) => byteCalled_any (bytesOf (upTo 59 t.data.toList)) W h)
    have hus : (bytesOf (upTo 59 t.data.toList)).size ≤ maxLen := by
      rw [bytesOf_size]
      have h1 := (upTo_end 59 t.data.toList).1
      have h2 : t.data.toList.length = t.size := Array.length_toList
      omega
    rw [hcons, h38, ← htl]
    rw [decide_eq_true h38] at e2
    have HS : Hid (∀ (b : UInt8) (ok : Bool), ok = (entL (upTo 59 t.data.toList)).isSome → (∀ c, entL (upTo 59 t.data.toList) = some c → b = c) → AheadIs (38 :: t.data.toList) (.returned (.tuple #[.int .u8 b.toNat, .string (bytesOf (fromB 59 t.data.toList).tail), .bool (ok && !(fromB 59 t.data.toList).isEmpty)]))) := by
      intro b ok hok hb
      by_cases hf : fromB 59 t.data.toList = []
      · have hst := stepL_short _ hf
        exact ahead_ret b _ rfl (by rw [hst, hf]; simp) (by rw [hst]; intro c r h; cases h)
      · have hne : (fromB 59 t.data.toList).isEmpty = false := by cases hq : fromB 59 t.data.toList with | nil => exact absurd hq hf | cons _ _ => rfl
        cases he : entL (upTo 59 t.data.toList) with
        | none =>
          have hst := stepL_bad _ he
          rw [he] at hok
          exact ahead_ret b _ rfl (by rw [hst, hok]; rfl) (by rw [hst]; intro c r h; cases h)
        | some c0 =>
          have hst := stepL_ent _ c0 hf he
          rw [he] at hok
          refine ahead_ret b _ rfl (by rw [hst, hok, hne]; rfl) ?_
          rw [hst]
          intro c r h
          obtain ⟨rfl, rfl⟩ := Prod.mk.inj (Option.some.inj h)
          exact ⟨hb _ he, rfl⟩
    have hbl : (bytesOf (upTo 59 t.data.toList)).data.toList = upTo 59 t.data.toList := rfl
    rw [hbl] at HB
    obtain ⟨x, hx⟩ : ∃ x : ByteArray, bytesOf (upTo 59 t.data.toList) = x := ⟨_, rfl⟩
    obtain ⟨y, hy⟩ : ∃ y : ByteArray, bytesOf (fromB 59 t.data.toList).tail = y := ⟨_, rfl⟩
    obtain ⟨z, hz⟩ : ∃ z : Bool, (!(fromB 59 t.data.toList).isEmpty) = z := ⟨_, rfl⟩
    rw [hx] at HC HB hus
    rw [hy] at HC HS
    rw [hz] at HC HS
    clear h60 h38 hcons htl hts hx hy hz hbl
    go_enter Tryz.func103, Tryz.ntmps103
    go_wp2_with fail
    refine (HC.out w).mono ?_
    rintro e w1 ⟨rfl, b1⟩
    go_wp2_with fail
    refine (HB.out w1 hus).mono ?_
    rintro e w2 ⟨⟨b, ok, rfl, hok, hb⟩, b2⟩
    have HF := hide (HS.out b ok hok hb)
    clear hok hb HS
    cases ok
    · go_wp2
      go_ret3
      exact ⟨HF.out, b1.trans (b2.mono b1.size)⟩
    · go_wp2
      go_ret3
      exact ⟨HF.out, b1.trans (b2.mono b1.size)⟩
  rw [decide_eq_false h38] at e2
  have HE : Hid (AheadIs s.data.toList (.returned (.tuple #[.int .u8 s[0].toNat, .string (s.extract 1 s.size), .bool true]))) := by
    have : stepL s.data.toList = some (s[0], s.data.toList.drop 1) := by
      conv => lhs; rw [hcons]
      exact stepL_plain _ h60 h38
    exact ahead_ret s[0] _ rfl (by rw [this]; rfl) (by rw [this]; intro c r h; obtain ⟨rfl, rfl⟩ := Prod.mk.inj (Option.some.inj h); exact ⟨rfl, extract_rest s 1⟩)
  clear h60 h38 hcons
  go_enter Tryz.func103, Tryz.ntmps103
  go_wp2
  go_quiet (fail)
  go_wp2
  go_ret3
  exact ⟨HE.out, below_drewC w nq⟩

theorem emptyL (s : ByteArray) : s.toList.isEmpty = decide (s.data.toList = []) := by
  rw [ByteArray.toList_eq]
  cases s.data.toList <;> simp

theorem ret_ue {t : ByteArray} {l : List UInt8} {b : Bool} {r : List UInt8 × Bool} (ht : t = bytesOf l) (h : r = (l, b)) : Ending.returned (.tuple #[.string t, .bool b]) = .returned (.tuple #[.string (bytesOf r.1), .bool r.2]) := by subst h ht; rfl

set_option maxRecDepth 100000 in
set_option maxHeartbeats 2000000 in
theorem unescape_any (s : ByteArray) (w : World) (hs : s.size ≤ 1099511627776) :
    Calls Tryz.prog 98 #[.string s] w fun e w' => e = .returned (.tuple #[.string (bytesOf (unescR s.data.toList).1), .bool (unescR s.data.toList).2]) ∧ Below w.heap.size w w' := by
  have el : s.data.toList.length = s.size := Array.length_toList
  have EL := hide el
  clear el
  go_enter Tryz.func98, Tryz.ntmps98
  go_wp2
  go_loopw [0] (fun v wr => ∃ (t : ByteArray) (acc : List UInt8), v = .string t ∧ UeAt s.data.toList t.data.toList acc ∧ Lib.IsBuilder 75 5 w.heap.size w.heap.size (Lib.byteCells acc) wr ∧ Below w.heap.size w wr) (fun v _ => match v with | .string t => t.size | _ => 0)
  case atStart => exact ⟨s, [], rfl, UeAt.start _, Lib.fresh_isBuilder _ _ w, (Below.refl _ _).alloc (Nat.le_refl _) _⟩
  case round =>
    obtain ⟨t, acc, rfl, hU, hI, hbe⟩ := hrel
    have tl : t.data.toList.length = t.size := Array.length_toList
    have hacc : acc.length + t.size ≤ 1099511627776 := by have := hU.1; have := EL.out; omega
    have HU := hide hU
    have TL := hide tl
    clear hU tl
    have em := emptyL t
    by_cases h0 : t.data.toList = []
    · rw [decide_eq_true h0] at em
      have hd := HU.out
      rw [h0] at hd
      have HD := hide hd.done
      clear h0 hd
      go_wp2_with fail
      refine (Tryz.Builder_String_any w.heap.size w.heap.size _ wr hI hbe.size).mono ?_
      rintro e w1 ⟨rfl, b1⟩
      go_wp2
      go_ret2
      exact ⟨ret_ue rfl HD.out, hbe.trans b1⟩
    · rw [decide_eq_false h0] at em
      have h00 : 0 < t.size := by
        have := TL.out
        have := List.length_pos_iff.2 h0
        omega
      have HA := hide (fun W : World => byteAhead_any t W (by unfold maxLen; omega) h00)
      have H0 := hide h0
      clear h0
      go_wp2_with fail
      refine (HA.out wr).mono ?_
      rintro e w1 ⟨⟨b, t2, ok, rfl, hok, hst⟩, b1⟩
      have HST := hide hst
      have c1 := hbe.trans (b1.mono hbe.size)
      clear hst HA
      cases hsl : stepL t.data.toList with
      | none =>
        rw [hsl] at hok
        have hok' : ok = false := hok
        subst hok'
        have HD := hide (HU.out.bad H0.out hsl)
        clear hok hsl
        go_wp2
        go_ret2
        exact ⟨ret_ue rfl HD.out, c1⟩
      | some p =>
        obtain ⟨c0, r0⟩ := p
        rw [hsl] at hok
        have hok' : ok = true := hok
        subst hok'
        have h2 := HST.out c0 r0 hsl
        obtain ⟨rfl, h3⟩ := h2
        have hU2 := HU.out.step hsl
        have hlt := (unesc_some hsl).2
        rw [← h3] at hU2 hlt
        have hlt2 : t2.size < t.size := by
          have h4 : t2.data.toList.length = t2.size := Array.length_toList
          have := TL.out
          omega
        have HU2 := hide hU2
        clear hok hsl h3 hU2 hlt HST
        go_wp2_with fail
        refine (writeByte_any w.heap.size w.heap.size acc b w1 (bld_below hI b1) (by omega) c1.size).mono ?_
        rintro e w2 ⟨rfl, I2, b2⟩
        go_wp2
        go_roundw
        case rel => exact ⟨t2, acc ++ [b], rfl, HU2.out, I2, c1.trans b2⟩
        case measure => exact hlt2
end Go.Proofs.YtccehdlgpbeijaaGreatDoor
