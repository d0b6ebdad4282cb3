/-
  What the specification's Escape does.
  What the specification's PieceText does.
  What the specification's NodeText does.
  What the specification's l8Copy does: a tree of blocks of its own.
-/
import Derived.Test.YtccehdlgpbeijaaGreatDoorRowsP
import Derived.Test.YtccehdlgpbeijaaGreatDoorSpecMark2
import Derived.Test.YtccehdlgpbeijaaGreatDoorParseNum
import Derived.Test.YtccehdlgpbeijaaGreatDoorNodeR
import Derived.Test.YtccehdlgpbeijaaGreatDoorMathNodeT
import Derived.Deep.RegionHeld3
namespace Go.Proofs.YtccehdlgpbeijaaGreatDoor
open Go.RowKit M
set_option linter.unusedVariables false

theorem ret_strE {a b : ByteArray} (h : a = b) : Ending.returned (.string a) = .returned (.string b) := by rw [h]
theorem esc_lit (l m : List UInt8) (t : ByteArray) (h : t = ⟨m.toArray⟩) : bytesOf l ++ t = bytesOf (l ++ m) := by subst h; exact bytesOf_append l m
theorem extract_one (s : ByteArray) (k : Nat) (h : k < s.size) : s.extract k (k + 1) = ⟨[s[k]].toArray⟩ := by
  apply ByteArray.ext
  have e : s.data.toList.length = s.size := Array.length_toList
  have h1 : (s.extract k (k + 1)).data = s.data.extract k (k + 1) := by simp
  rw [h1]
  apply Array.ext'
  rw [Array.toList_extract]
  show (s.data.toList.drop k).take (k + 1 - k) = _
  rw [List.drop_eq_getElem_cons (by omega), show k + 1 - k = 1 by omega]
  rfl

set_option maxRecDepth 100000 in
set_option maxHeartbeats 4000000 in
theorem specEscape_any (s : ByteArray) (w : World) (hs : s.size ≤ 1099511627776) :
    Calls Tryz.prog 62 #[.string s] w fun e w' => e = .returned (.string (bytesOf (escL s.data.toList))) ∧ w' = w := by
  go_enter Tryz.func62, Tryz.ntmps62
  go_wp2
  go_loop [3, 4] (fun o i => ∃ (k : Nat) (t : ByteArray), k ≤ s.size ∧ i = .int .i64 k ∧ o = .string t ∧ t.size ≤ 6 * k ∧ t = bytesOf (escL (s.data.toList.take k))) (fun _ i => s.size - (intOf i).toNat)
  case atStart => exact ⟨0, _, Nat.zero_le _, rfl, rfl, Nat.zero_le _, rfl⟩
  case round =>
    obtain ⟨k, t, hk, rfl, rfl, ht6, ht⟩ := hrel
    have HT := hide ht
    clear ht
    by_cases hlt : k < s.size
    · have HL : Hid (escL (s.data.toList.take (k + 1)) = escL (s.data.toList.take k) ++ escB s[k]) := escL_snoc s k hlt
      have e1 := is_u8 s[k] 38 38 rfl
      have e2 := is_u8 s[k] 60 60 rfl
      have e3 := is_u8 s[k] 62 62 rfl
      have e4 := is_u8 s[k] 34 34 rfl
      have hq : ∀ n : Nat, n ≤ 6 → ¬ (9223372036854775807 < t.size + n) := fun n hn => by omega
      have q5 := hq 5 (by decide)
      have q4 := hq 4 (by decide)
      have q6 := hq 6 (by decide)
      have q1 := hq 1 (by decide)
      clear hq
      have HX := hide (extract_one s k hlt)
      have HZ : Hid ((s.extract k (k + 1)).size = 1) := by show (s.extract k (k + 1)).size = 1; rw [HX.out]; rfl
      have qx : ¬ (9223372036854775807 < t.size + (s.extract k (k + 1)).size) := by rw [HZ.out]; exact q1
      have HS : Hid (∀ m : List UInt8, escB s[k] = m → m.length ≤ 6 → ∀ x : ByteArray, x = ⟨m.toArray⟩ → (t ++ x).size ≤ 6 * (k + 1) ∧ t ++ x = bytesOf (escL (s.data.toList.take (k + 1)))) := hide (fun m hm hml x hx => by
        refine ⟨?_, by rw [HL.out, hm, HT.out]; exact esc_lit _ m x hx⟩
        have hxs : x.size = m.length := by rw [hx]; show m.toArray.size = _; simp
        rw [ByteArray.size_append]; omega)
      by_cases h1 : s[k] = 38
      · have HB := hide (HS.out _ (show escB s[k] = [38, 97, 109, 112, 59] by simp [escB, h1]) (by decide) _ rfl)
        rw [decide_eq_true h1] at e1
        clear h1 HS HL HX HZ qx e2 e3 e4
        go_wp2
        go_round
        case rel => exact ⟨k + 1, _, by omega, by go_num, rfl, HB.out.1, HB.out.2⟩
        case measure => simp [intOf]; omega
      rw [decide_eq_false h1] at e1
      by_cases h2 : s[k] = 60
      · have HB := hide (HS.out _ (show escB s[k] = [38, 108, 116, 59] by simp [escB, h2]) (by decide) _ rfl)
        rw [decide_eq_true h2] at e2
        clear h1 h2 HS HL HX HZ qx e3 e4
        go_wp2
        go_round
        case rel => exact ⟨k + 1, _, by omega, by go_num, rfl, HB.out.1, HB.out.2⟩
        case measure => simp [intOf]; omega
      rw [decide_eq_false h2] at e2
      by_cases h3 : s[k] = 62
      · have HB := hide (HS.out _ (show escB s[k] = [38, 103, 116, 59] by simp [escB, h3]) (by decide) _ rfl)
        rw [decide_eq_true h3] at e3
        clear h1 h2 h3 HS HL HX HZ qx e4
        go_wp2
        go_round
        case rel => exact ⟨k + 1, _, by omega, by go_num, rfl, HB.out.1, HB.out.2⟩
        case measure => simp [intOf]; omega
      rw [decide_eq_false h3] at e3
      by_cases h4 : s[k] = 34
      · have HB := hide (HS.out _ (show escB s[k] = [38, 113, 117, 111, 116, 59] by simp [escB, h4]) (by decide) _ rfl)
        rw [decide_eq_true h4] at e4
        clear h1 h2 h3 h4 HS HL HX HZ qx
        go_wp2
        go_round
        case rel => exact ⟨k + 1, _, by omega, by go_num, rfl, HB.out.1, HB.out.2⟩
        case measure => simp [intOf]; omega
      rw [decide_eq_false h4] at e4
      have HB := hide (HS.out _ (show escB s[k] = [s[k]] by simp [escB, h1, h2, h3, h4]) (by simp) _ HX.out)
      clear h1 h2 h3 h4 HS HL HX HZ
      go_wp2
      go_round
      case rel => exact ⟨k + 1, _, by omega, by go_num, rfl, HB.out.1, HB.out.2⟩
      case measure => simp [intOf]; omega
    · go_wp2
      go_ret
      exact ⟨ret_strE (by rw [HT.out, take_all s k hlt]), rfl⟩
end Go.Proofs.YtccehdlgpbeijaaGreatDoor
namespace Go.Proofs.YtccehdlgpbeijaaGreatDoor
open Go.RowKit M
set_option linter.unusedVariables false

theorem spc_joinS (l : List UInt8) : (⟨#[32, 120, 109, 108, 110, 115, 61, 34]⟩ : ByteArray) ++ bytesOf l ++ ⟨#[34]⟩ = bytesOf (spcS ++ l ++ [34]) := by
  apply ByteArray.ext
  simp [bytesOf, spcS]
theorem mk_1 {p : Pce} (h : p.k = 1) (x : ByteArray) (hx : x = bytesOf (spcT p)) : (⟨#[60]⟩ : ByteArray) ++ p.name ++ x ++ ⟨#[62]⟩ = bytesOf (markT p) := by
  subst hx
  unfold markT
  rw [if_pos h]
  apply ByteArray.ext
  simp [bytesOf]
theorem mk_2 {p : Pce} (h : p.k = 2) : (⟨#[60, 47]⟩ : ByteArray) ++ p.name ++ ⟨#[62]⟩ = bytesOf (markT p) := by
  unfold markT
  rw [if_neg (by omega), if_pos h]
  apply ByteArray.ext
  simp [bytesOf]
theorem mk_3 {p : Pce} (h : p.k = 3) (x : ByteArray) (hx : x = bytesOf (spcT p)) : (⟨#[60]⟩ : ByteArray) ++ p.name ++ x ++ ⟨#[47, 62]⟩ = bytesOf (markT p) := by
  subst hx
  unfold markT
  rw [if_neg (by omega), if_neg (by omega), if_pos h]
  apply ByteArray.ext
  simp [bytesOf]
theorem mk_4 {p : Pce} (h1 : p.k ≠ 1) (h2 : p.k ≠ 2) (h3 : p.k ≠ 3) : bytesOf (escL p.s.data.toList) = bytesOf (markT p) := by
  unfold markT
  rw [if_neg h1, if_neg h2, if_neg h3]
theorem isIS (k z : Int) : (k == z) = decide (k = z) := by rw [Bool.eq_iff_iff]; simp

set_option maxRecDepth 100000 in
set_option maxHeartbeats 4000000 in
theorem specPieceText_any (p : Pce) (w : World) (h1 : p.name.size ≤ 1099511627776) (h2 : p.ns.size ≤ 1099511627776) (h3 : p.s.size ≤ 1099511627776) :
    Calls Tryz.prog 61 #[.agg #[.int .i64 p.k, .string p.name, .string p.ns, .bool p.has, .string p.s]] w fun e w' => e = .returned (.string (bytesOf (markT p))) ∧ Below w.heap.size w w' := by
  have HN := hide (fun W : World => specEscape_any p.ns W h2)
  have HS := hide (fun W : World => specEscape_any p.s W h3)
  have hz : (bytesOf (escL p.ns.data.toList)).size ≤ 6 * p.ns.size := by
    rw [bytesOf_size]
    have h1 := escL_le p.ns.data.toList
    have h2 : p.ns.data.toList.length = p.ns.size := Array.length_toList
    omega
  have HJ := hide (spc_joinS (escL p.ns.data.toList))
  obtain ⟨x, hx⟩ : ∃ x, bytesOf (escL p.ns.data.toList) = x := ⟨_, rfl⟩
  rw [hx] at HN hz HJ
  have HX := hide hx
  clear hx
  have M1 := hide (fun h => mk_1 (p := p) h)
  have M2 := hide (fun h => mk_2 (p := p) h)
  have M3 := hide (fun h => mk_3 (p := p) h)
  have M4 := hide (fun h1 h2 h3 => mk_4 (p := p) h1 h2 h3)
  have e1 := isIS p.k 1
  have e2 := isIS p.k 2
  have e3 := isIS p.k 3
  have SP : Hid (∀ y, y = (if p.has then (⟨#[32, 120, 109, 108, 110, 115, 61, 34]⟩ : ByteArray) ++ x ++ ⟨#[34]⟩ else ⟨#[]⟩) → y = bytesOf (spcT p)) := by
    intro y hy
    rw [hy]
    unfold spcT
    cases p.has
    · rfl
    · exact HJ.out
  obtain ⟨k, name, ns, has, s⟩ := p
  simp only at *
  have q1 : ¬ (9223372036854775807 < 8 + x.size) := by omega
  have q2 : ¬ (9223372036854775807 < 8 + x.size + 1) := by omega
  have q3 : ¬ (9223372036854775807 < 1 + name.size) := by omega
  have q4 : ¬ (9223372036854775807 < 1 + name.size + 0) := by omega
  have q5 : ¬ (9223372036854775807 < 1 + name.size + 0 + 1) := by omega
  have q6 : ¬ (9223372036854775807 < 1 + name.size + 0 + 2) := by omega
  have q7 : ¬ (9223372036854775807 < 1 + name.size + 1) := by omega
  have q8 : ¬ (9223372036854775807 < 1 + name.size + 2) := by omega
  have q9 : ¬ (9223372036854775807 < 2 + name.size) := by omega
  have q10 : ¬ (9223372036854775807 < 2 + name.size + 1) := by omega
  have q11 : ¬ (9223372036854775807 < 1 + name.size + (8 + x.size + 1)) := by omega
  have q12 : ¬ (9223372036854775807 < 1 + name.size + (8 + x.size + 1) + 1) := by omega
  have q13 : ¬ (9223372036854775807 < 1 + name.size + (8 + x.size + 1) + 2) := by omega
  clear HJ
  by_cases k1 : k = 1
  · rw [decide_eq_true k1] at e1
    cases has
    · have HR := hide (M1.out k1 _ (SP.out _ rfl))
      clear k1 M1 M2 M3 M4 SP e2 e3
      go_enter Tryz.func61, Tryz.ntmps61
      go_wp2
      go_ret
      exact ⟨ret_strE HR.out, (Below.refl _ _).alloc (Nat.le_refl _) _⟩
    · have HR := hide (M1.out k1 _ (SP.out _ rfl))
      clear k1 M1 M2 M3 M4 SP e2 e3
      go_enter Tryz.func61, Tryz.ntmps61
      go_wp2_with fail
      refine (HN.out _).mono ?_
      rintro e w1 ⟨rfl, rfl⟩
      go_wp2
      go_ret
      exact ⟨ret_strE HR.out, (Below.refl _ _).alloc (Nat.le_refl _) _⟩
  rw [decide_eq_false k1] at e1
  by_cases k2 : k = 2
  · rw [decide_eq_true k2] at e2
    have HR := hide (M2.out k2)
    clear k1 k2 M1 M2 M3 M4 SP e3
    cases has
    · go_enter Tryz.func61, Tryz.ntmps61
      go_wp2
      go_ret
      exact ⟨ret_strE HR.out, (Below.refl _ _).alloc (Nat.le_refl _) _⟩
    · go_enter Tryz.func61, Tryz.ntmps61
      go_wp2_with fail
      refine (HN.out _).mono ?_
      rintro e w1 ⟨rfl, rfl⟩
      go_wp2
      go_ret
      exact ⟨ret_strE HR.out, (Below.refl _ _).alloc (Nat.le_refl _) _⟩
  rw [decide_eq_false k2] at e2
  by_cases k3 : k = 3
  · rw [decide_eq_true k3] at e3
    cases has
    · have HR := hide (M3.out k3 _ (SP.out _ rfl))
      clear k1 k2 k3 M1 M2 M3 M4 SP
      go_enter Tryz.func61, Tryz.ntmps61
      go_wp2
      go_ret
      exact ⟨ret_strE HR.out, (Below.refl _ _).alloc (Nat.le_refl _) _⟩
    · have HR := hide (M3.out k3 _ (SP.out _ rfl))
      clear k1 k2 k3 M1 M2 M3 M4 SP
      go_enter Tryz.func61, Tryz.ntmps61
      go_wp2_with fail
      refine (HN.out _).mono ?_
      rintro e w1 ⟨rfl, rfl⟩
      go_wp2
      go_ret
      exact ⟨ret_strE HR.out, (Below.refl _ _).alloc (Nat.le_refl _) _⟩
  rw [decide_eq_false k3] at e3
  have HR := hide (M4.out k1 k2 k3)
  clear k1 k2 k3 M1 M2 M3 M4 SP
  cases has
  · go_enter Tryz.func61, Tryz.ntmps61
    go_wp2_with fail
    refine (HS.out _).mono ?_
    rintro e w1 ⟨rfl, rfl⟩
    go_wp2
    go_ret
    exact ⟨ret_strE HR.out, (Below.refl _ _).alloc (Nat.le_refl _) _⟩
  · go_enter Tryz.func61, Tryz.ntmps61
    go_wp2_with fail
    refine (HN.out _).mono ?_
    rintro e w1 ⟨rfl, rfl⟩
    go_wp2_with fail
    refine (HS.out _).mono ?_
    rintro e w1 ⟨rfl, rfl⟩
    go_wp2
    go_ret
    exact ⟨ret_strE HR.out, (Below.refl _ _).alloc (Nat.le_refl _) _⟩
end Go.Proofs.YtccehdlgpbeijaaGreatDoor
namespace Go.Proofs.YtccehdlgpbeijaaGreatDoor
open Go.RowKit M
set_option linter.unusedVariables false

def TsS (K : Nat) : Prop := ∀ (n : Nd) (o : ByteArray) (a : Option Addr) (cap B : Nat) (w : World), cntL n.ks < K → Nds w B a n.ks → B ≤ w.heap.size → n.szN ≤ 1048576 → o.size ≤ 1048576 →
    Calls Tryz.prog 39 #[.agg #[.string n.ns, .string n.nm, .string n.tx, .slice a n.ks.length cap], .string o] w fun e w' => e = .returned (.string (bytesOf (n.txt o))) ∧ Below w.heap.size w w'

theorem mark_open (ra rb o : ByteArray) (h : ra = o) : markT ⟨1, rb, ⟨#[]⟩, false, ⟨#[]⟩⟩ = [60] ++ rb.data.toList ++ spN ra o ++ [62] := by simp [markT, spcT, spN, h]
theorem mark_openS (ra rb o : ByteArray) (h : ¬ ra = o) : markT ⟨1, rb, ra, true, ⟨#[]⟩⟩ = [60] ++ rb.data.toList ++ spN ra o ++ [62] := by simp [markT, spcT, spN, h]
theorem mark_empty (ra rb o : ByteArray) (h : ra = o) : markT ⟨3, rb, ⟨#[]⟩, false, ⟨#[]⟩⟩ = [60] ++ rb.data.toList ++ spN ra o ++ [47, 62] := by simp [markT, spcT, spN, h]
theorem mark_emptyS (ra rb o : ByteArray) (h : ¬ ra = o) : markT ⟨3, rb, ra, true, ⟨#[]⟩⟩ = [60] ++ rb.data.toList ++ spN ra o ++ [47, 62] := by simp [markT, spcT, spN, h]
theorem close_joinN (l : List UInt8) (n : ByteArray) : bytesOf l ++ (⟨#[60, 47]⟩ : ByteArray) ++ n ++ ⟨#[62]⟩ = bytesOf (l ++ ([60, 47] ++ n.data.toList ++ [62])) := by
  apply ByteArray.ext
  simp [bytesOf]

set_option maxRecDepth 100000 in
set_option maxHeartbeats 4000000 in
theorem l8Text_step (K : Nat) (ih : TsS K) : TsS (K + 1) := by
  intro n o a cap B w hn h hB hs ho
  have HI : Hid (TsS K) := ih
  clear ih
  have HX := hide (BoxN.made w a cap n 26)
  rw [szN_ks] at hs
  have HT := hide (txt_ks n o)
  have HL := hide (txt_len n o)
  rw [szN_ks] at HL
  generalize n.txt o = R at *
  obtain ⟨ra, rb, rc, ks⟩ := n
  simp only [Nd.ns, Nd.nm, Nd.tx, Nd.ks] at *
  have HB0 : Hid (Below w.heap.size w (w.alloc (Obj.cells #[Value.string ra, Value.string rb, Value.string rc, Value.slice a ks.length cap] 26))) := (Below.refl _ _).alloc (Nat.le_refl _) _
  have HH := hide h
  clear h
  have HBW : Hid (∀ W' : World, Below (w.heap.size + 1) (w.alloc (Obj.cells #[Value.string ra, Value.string rb, Value.string rc, Value.slice a ks.length cap] 26)) W' → Below w.heap.size w W') := fun W' hb => HB0.out.trans (hb.mono (by omega))
  have HSZ : Hid (∀ W' : World, Below (w.heap.size + 1) (w.alloc (Obj.cells #[Value.string ra, Value.string rb, Value.string rc, Value.slice a ks.length cap] 26)) W' → w.heap.size + 1 ≤ W'.heap.size) := fun W' hb => by have := hb.size; simpa using this
  have hcells : ∀ W' : World, Below (w.heap.size + 1) (w.alloc (Obj.cells #[Value.string ra, Value.string rb, Value.string rc, Value.slice a ks.length cap] 26)) W' → W'.cell? ⟨w.heap.size, 0, none⟩ = some (.string ra) ∧ W'.cell? ⟨w.heap.size, 1, none⟩ = some (.string rb) ∧ W'.cell? ⟨w.heap.size, 2, none⟩ = some (.string rc) ∧ W'.cell? ⟨w.heap.size, 3, none⟩ = some (.slice a ks.length cap) := fun W' hb => by
    have := HX.out.keep hb (by omega)
    exact ⟨this.c0, this.c1, this.c2, this.c3⟩
  have HCE := hide hcells
  clear hcells
  by_cases he : rc.size = 0 ∧ ks.length = 0
  · have h8 := emptyT he.1
    have hks : ks = [] := List.eq_nil_of_length_eq_zero he.2
    have HR := hide (HT.out.trans (if_pos he))
    subst hks
    simp only [List.length_nil] at *
    clear HT
    by_cases hq : ra = o
    · have hq1 := eqStrN hq
      rw [← mark_empty ra rb o hq] at HR
      clear hq
      go_enter Tryz.func39, Tryz.ntmps39
      go_wp2_with fail
      refine (specPieceText_any ⟨3, rb, ⟨#[]⟩, false, ⟨#[]⟩⟩ _ (show rb.size ≤ 1099511627776 by omega) (Nat.zero_le _) (Nat.zero_le _)).mono ?_
      rintro e w1 ⟨rfl, b1⟩
      go_wp2
      go_ret
      exact ⟨ret_strE (by rw [HR.out]), (HB0.out.alloc HB0.out.size _).trans (b1.mono (by simp; omega))⟩
    · have hq1 := neStrN hq
      rw [← mark_emptyS ra rb o hq] at HR
      clear hq
      go_enter Tryz.func39, Tryz.ntmps39
      go_wp2_with fail
      refine (specPieceText_any ⟨3, rb, ra, true, ⟨#[]⟩⟩ _ (show rb.size ≤ 1099511627776 by omega) (show ra.size ≤ 1099511627776 by omega) (Nat.zero_le _)).mono ?_
      rintro e w1 ⟨rfl, b1⟩
      go_wp2
      go_ret
      exact ⟨ret_strE (by rw [HR.out]), (HB0.out.alloc HB0.out.size _).trans (b1.mono (by simp; omega))⟩
  · have HR := hide (HT.out.trans (if_neg he))
    clear HT
    have HL2 := hide (txtL_len ks ra)
    have hway : rc.toList.isEmpty = false ∨ (rc.toList.isEmpty = true ∧ ((ks.length : Int) == 0) = false) := by
      by_cases e : rc.size = 0
      · exact .inr ⟨emptyT e, by rw [beq_eq_false_iff_ne]; omega⟩
      · exact .inl (emptyF e)
    clear he
    have hpp : ∃ top, [60] ++ rb.data.toList ++ spN ra o ++ [62] = top := ⟨_, rfl⟩
    obtain ⟨top, htop⟩ := hpp
    rw [htop] at HR
    have hRl : top.length + (escL rc.data.toList).length + (txtL ks ra).length + rb.size ≤ 1000000000 := by
      have := HL.out
      rw [HR.out] at this
      simp only [List.length_append] at this
      omega
    have HES := hide (fun W : World => specEscape_any rc W (by omega))
    have hx1 : (bytesOf top).size = top.length := bytesOf_size _
    have hx2 : (bytesOf (escL rc.data.toList)).size = (escL rc.data.toList).length := bytesOf_size _
    have hz1 : ¬ (9223372036854775807 < (bytesOf top).size + (bytesOf (escL rc.data.toList)).size) := by omega
    have hj1 : Hid (bytesOf top ++ bytesOf (escL rc.data.toList) = bytesOf (top ++ escL rc.data.toList)) := bytesOf_append _ _
    clear hx1 hx2
    by_cases hq : ra = o
    · have hq1 := eqStrN hq
      have HPT := hide (fun W : World => specPieceText_any ⟨1, rb, ⟨#[]⟩, false, ⟨#[]⟩⟩ W (show rb.size ≤ 1099511627776 by omega) (Nat.zero_le _) (Nat.zero_le _))
      rw [mark_open ra rb o hq, htop] at HPT
      clear hq htop
      rcases hway with h8 | ⟨h8, h9⟩
      all_goals
        have KP : Hid (((w.alloc (Obj.cells #[Value.string ra, Value.string rb, Value.string rc, Value.slice a ks.length cap] 26)).alloc (Obj.cells #[Value.int .i64 1, Value.string rb, Value.string ⟨#[]⟩, Value.bool false, Value.string ⟨#[]⟩] 89)).drew.cell? ⟨w.heap.size, 2, none⟩ = some (.string rc) ∧ ((w.alloc (Obj.cells #[Value.string ra, Value.string rb, Value.string rc, Value.slice a ks.length cap] 26)).alloc (Obj.cells #[Value.int .i64 1, Value.string rb, Value.string ⟨#[]⟩, Value.bool false, Value.string ⟨#[]⟩] 89)).drew.cell? ⟨w.heap.size + 1, 0, none⟩ = some (.int .i64 1) ∧ ((w.alloc (Obj.cells #[Value.string ra, Value.string rb, Value.string rc, Value.slice a ks.length cap] 26)).alloc (Obj.cells #[Value.int .i64 1, Value.string rb, Value.string ⟨#[]⟩, Value.bool false, Value.string ⟨#[]⟩] 89)).drew.cell? ⟨w.heap.size + 1, 1, none⟩ = some (.string rb) ∧ ((w.alloc (Obj.cells #[Value.string ra, Value.string rb, Value.string rc, Value.slice a ks.length cap] 26)).alloc (Obj.cells #[Value.int .i64 1, Value.string rb, Value.string ⟨#[]⟩, Value.bool false, Value.string ⟨#[]⟩] 89)).drew.cell? ⟨w.heap.size + 1, 2, none⟩ = some (.string ⟨#[]⟩) ∧ ((w.alloc (Obj.cells #[Value.string ra, Value.string rb, Value.string rc, Value.slice a ks.length cap] 26)).alloc (Obj.cells #[Value.int .i64 1, Value.string rb, Value.string ⟨#[]⟩, Value.bool false, Value.string ⟨#[]⟩] 89)).drew.cell? ⟨w.heap.size + 1, 3, none⟩ = some (.bool false) ∧ ((w.alloc (Obj.cells #[Value.string ra, Value.string rb, Value.string rc, Value.slice a ks.length cap] 26)).alloc (Obj.cells #[Value.int .i64 1, Value.string rb, Value.string ⟨#[]⟩, Value.bool false, Value.string ⟨#[]⟩] 89)).drew.cell? ⟨w.heap.size + 1, 4, none⟩ = some (.string ⟨#[]⟩)) := by
          refine ⟨?_, ?_, ?_, ?_, ?_, ?_⟩ <;> simp
        have hl1 : w.heap.size < ((w.alloc (Obj.cells #[Value.string ra, Value.string rb, Value.string rc, Value.slice a ks.length cap] 26)).alloc (Obj.cells #[Value.int .i64 1, Value.string rb, Value.string ⟨#[]⟩, Value.bool false, Value.string ⟨#[]⟩] 89)).drew.heap.size := by show w.heap.size < ((w.alloc (Obj.cells #[Value.string ra, Value.string rb, Value.string rc, Value.slice a ks.length cap] 26)).alloc (Obj.cells #[Value.int .i64 1, Value.string rb, Value.string ⟨#[]⟩, Value.bool false, Value.string ⟨#[]⟩] 89)).heap.size; simp <;> omega
        have hl2 : w.heap.size + 1 < ((w.alloc (Obj.cells #[Value.string ra, Value.string rb, Value.string rc, Value.slice a ks.length cap] 26)).alloc (Obj.cells #[Value.int .i64 1, Value.string rb, Value.string ⟨#[]⟩, Value.bool false, Value.string ⟨#[]⟩] 89)).drew.heap.size := by show w.heap.size + 1 < ((w.alloc (Obj.cells #[Value.string ra, Value.string rb, Value.string rc, Value.slice a ks.length cap] 26)).alloc (Obj.cells #[Value.int .i64 1, Value.string rb, Value.string ⟨#[]⟩, Value.bool false, Value.string ⟨#[]⟩] 89)).heap.size; simp
        have HC1 : Hid (Below (w.heap.size + 1) (w.alloc (Obj.cells #[Value.string ra, Value.string rb, Value.string rc, Value.slice a ks.length cap] 26)) ((w.alloc (Obj.cells #[Value.string ra, Value.string rb, Value.string rc, Value.slice a ks.length cap] 26)).alloc (Obj.cells #[Value.int .i64 1, Value.string rb, Value.string ⟨#[]⟩, Value.bool false, Value.string ⟨#[]⟩] 89)).drew) := below_drewN ((Below.refl (w.heap.size + 1) (w.alloc (Obj.cells #[Value.string ra, Value.string rb, Value.string rc, Value.slice a ks.length cap] 26))).alloc (by simp) _)
        have HL1 := hide hl1
        have HL2' := hide hl2
        clear hl1 hl2
        go_enter Tryz.func39, Tryz.ntmps39
        go_wp2
        go_region_held3 (fun W => W.cell? ⟨w.heap.size, 2, none⟩ = some (.string rc) ∧ W.cell? ⟨w.heap.size + 1, 0, none⟩ = some (.int .i64 1) ∧ W.cell? ⟨w.heap.size + 1, 1, none⟩ = some (.string rb) ∧ W.cell? ⟨w.heap.size + 1, 2, none⟩ = some (.string ⟨#[]⟩) ∧ W.cell? ⟨w.heap.size + 1, 3, none⟩ = some (.bool false) ∧ W.cell? ⟨w.heap.size + 1, 4, none⟩ = some (.string ⟨#[]⟩)) (first | exact KP.out | exact K1.out) (first
          | (go_at_call 61; refine (HPT.out _).mono ?_; rintro e w1 ⟨rfl, b1⟩; have K1 := hide (And.intro (((bcellN b1).1 _ _ HL1.out).trans KP.out.1) (And.intro (((bcellN b1).1 _ _ HL2'.out).trans KP.out.2.1) (And.intro (((bcellN b1).1 _ _ HL2'.out).trans KP.out.2.2.1) (And.intro (((bcellN b1).1 _ _ HL2'.out).trans KP.out.2.2.2.1) (And.intro (((bcellN b1).1 _ _ HL2'.out).trans KP.out.2.2.2.2.1) (((bcellN b1).1 _ _ HL2'.out).trans KP.out.2.2.2.2.2)))))))
          | (go_at_call 62; refine (HES.out _).mono ?_; rintro e w2 ⟨rfl, hw2⟩; obtain rfl := hw2.symm))
        have c1 : Below (w.heap.size + 1) (w.alloc (Obj.cells #[Value.string ra, Value.string rb, Value.string rc, Value.slice a ks.length cap] 26)) w1 := HC1.out.trans (b1.mono (Nat.succ_le_of_lt HL1.out))
        clear b1 K1
        go_wp2
        go_loopw [6, 7] (fun sv i wr => ∃ k : Nat, k ≤ ks.length ∧ i = .int .i64 k ∧ sv = .string (bytesOf (top ++ escL rc.data.toList ++ txtL (ks.take k) ra)) ∧ Below (w.heap.size + 1) (w.alloc (Obj.cells #[Value.string ra, Value.string rb, Value.string rc, Value.slice a ks.length cap] 26)) wr) (fun _ i _ => ks.length - (intOf i).toNat)
        case atStart => exact ⟨0, Nat.zero_le _, rfl, by rw [hj1.out]; simp [txtL], c1⟩
        case round =>
          obtain ⟨k, hk, rfl, rfl, hbe⟩ := hrel
          have hwr := HSZ.out _ hbe
          have hq1' : (txtL (ks.take k) ra).length ≤ 200000000 := by
            have h1 := txtL_len (ks.take k) ra
            have h2 := szL_take ks k
            have h3 : (ks.take k).length ≤ ks.length := by rw [List.length_take]; omega
            omega
          have hz3 : (bytesOf (top ++ escL rc.data.toList ++ txtL (ks.take k) ra)).size ≤ 1200000000 := by rw [bytesOf_size]; simp only [List.length_append]; omega
          have hc0 := HCE.out _ hbe
          obtain ⟨y0, y1, y2, y3⟩ := hc0
          by_cases hlt : k < ks.length
          · obtain ⟨b, o', rfl, hb, hc⟩ := (HH.out.stays (HBW.out _ hbe) hB).at (by omega)
            obtain ⟨ak, ck, hx0, hx1, hx2, hx3, hkx⟩ := hc k hlt
            clear hc
            have hcn : cntL (ks[k]).ks < K := by have := cntL_at ks k hlt; omega
            have hks : (ks[k]).szN ≤ 1048576 := by have := szL_mem ks _ (List.getElem_mem hlt); omega
            have hz4 : (bytesOf ((ks[k]).txt ra)).size ≤ 200000000 := by have := txt_len ks[k] ra; rw [bytesOf_size]; omega
            have HTL := hide (show bytesOf (top ++ escL rc.data.toList ++ txtL (ks.take k) ra) ++ bytesOf ((ks[k]).txt ra) = bytesOf (top ++ escL rc.data.toList ++ txtL (ks.take (k + 1)) ra) by rw [txtL_snoc ks k hlt ra, bytesOf_append]; simp only [List.append_assoc])
            have hBw : B ≤ wr.drew.heap.size := by show B ≤ wr.heap.size; omega
            have HQ := hide (HI.out ks[k] ra ak ck B wr.drew hcn hkx.drew hBw hks (by omega))
            have KK := hide (And.intro y0 (And.intro y3 (And.intro hx0 (And.intro hx1 (And.intro hx2 hx3)))))
            have hl1 : b < wr.drew.heap.size := by show b < wr.heap.size; omega
            have hl2 : w.heap.size < wr.drew.heap.size := by show w.heap.size < wr.heap.size; omega
            have hbd := below_drewN hbe
            generalize bytesOf ((ks[k]).txt ra) = tk at *
            generalize bytesOf (top ++ escL rc.data.toList ++ txtL (ks.take k) ra) = sk at *
            have hz5 : ¬ (9223372036854775807 < sk.size + tk.size) := by omega
            clear y1 y2
            go_wp2
            go_region_held3 (fun W => W.cell? ⟨w.heap.size, 0, none⟩ = some (.string ra) ∧ W.cell? ⟨w.heap.size, 3, none⟩ = some (.slice (some ⟨b, o', none⟩) ks.length cap) ∧ W.cell? ⟨b, o' + k * 4, none⟩ = some (.string ks[k].ns) ∧ W.cell? ⟨b, o' + k * 4 + 1, none⟩ = some (.string ks[k].nm) ∧ W.cell? ⟨b, o' + k * 4 + 2, none⟩ = some (.string ks[k].tx) ∧ W.cell? ⟨b, o' + k * 4 + 3, none⟩ = some (.slice ak ks[k].ks.length ck)) (first | exact KK.out | exact KK2.out) ((go_at_call 39; refine HQ.out.mono ?_; rintro e w3 ⟨rfl, b3⟩; have KK2 := hide (And.intro (((bcellN b3).1 _ _ hl2).trans KK.out.1) (And.intro (((bcellN b3).1 _ _ hl2).trans KK.out.2.1) (And.intro (((bcellN b3).1 _ _ hl1).trans KK.out.2.2.1) (And.intro (((bcellN b3).1 _ _ hl1).trans KK.out.2.2.2.1) (And.intro (((bcellN b3).1 _ _ hl1).trans KK.out.2.2.2.2.1) (((bcellN b3).1 _ _ hl1).trans KK.out.2.2.2.2.2))))))))
            all_goals
              have c3 := hbd.trans (b3.mono hwr)
              clear b3
              go_wp2
              go_roundw
              case rel => exact ⟨k + 1, by omega, by go_num, by rw [HTL.out], c3⟩
              case measure => simp [intOf]; omega
          · have htk : ks.take k = ks := List.take_of_length_le (by omega)
            have HJ := hide (show bytesOf (top ++ escL rc.data.toList ++ txtL (ks.take k) ra) ++ (⟨#[60, 47]⟩ : ByteArray) ++ rb ++ ⟨#[62]⟩ = bytesOf R by rw [close_joinN, htk, HR.out])
            generalize bytesOf (top ++ escL rc.data.toList ++ txtL (ks.take k) ra) = sk at *
            have hz5 : ¬ (9223372036854775807 < sk.size + 2) := by omega
            have hz6 : ¬ (9223372036854775807 < sk.size + 2 + rb.size) := by omega
            have hz7 : ¬ (9223372036854775807 < sk.size + 2 + rb.size + 1) := by omega
            go_wp2
            go_ret
            exact ⟨ret_strE HJ.out, HBW.out _ hbe⟩
    · have hq1 := neStrN hq
      have HPT := hide (fun W : World => specPieceText_any ⟨1, rb, ra, true, ⟨#[]⟩⟩ W (show rb.size ≤ 1099511627776 by omega) (show ra.size ≤ 1099511627776 by omega) (Nat.zero_le _))
      rw [mark_openS ra rb o hq, htop] at HPT
      clear hq htop
      rcases hway with h8 | ⟨h8, h9⟩
      all_goals
        have KP : Hid (((w.alloc (Obj.cells #[Value.string ra, Value.string rb, Value.string rc, Value.slice a ks.length cap] 26)).alloc (Obj.cells #[Value.int .i64 1, Value.string rb, Value.string ra, Value.bool true, Value.string ⟨#[]⟩] 89)).drew.cell? ⟨w.heap.size, 2, none⟩ = some (.string rc) ∧ ((w.alloc (Obj.cells #[Value.string ra, Value.string rb, Value.string rc, Value.slice a ks.length cap] 26)).alloc (Obj.cells #[Value.int .i64 1, Value.string rb, Value.string ra, Value.bool true, Value.string ⟨#[]⟩] 89)).drew.cell? ⟨w.heap.size + 1, 0, none⟩ = some (.int .i64 1) ∧ ((w.alloc (Obj.cells #[Value.string ra, Value.string rb, Value.string rc, Value.slice a ks.length cap] 26)).alloc (Obj.cells #[Value.int .i64 1, Value.string rb, Value.string ra, Value.bool true, Value.string ⟨#[]⟩] 89)).drew.cell? ⟨w.heap.size + 1, 1, none⟩ = some (.string rb) ∧ ((w.alloc (Obj.cells #[Value.string ra, Value.string rb, Value.string rc, Value.slice a ks.length cap] 26)).alloc (Obj.cells #[Value.int .i64 1, Value.string rb, Value.string ra, Value.bool true, Value.string ⟨#[]⟩] 89)).drew.cell? ⟨w.heap.size + 1, 2, none⟩ = some (.string ra) ∧ ((w.alloc (Obj.cells #[Value.string ra, Value.string rb, Value.string rc, Value.slice a ks.length cap] 26)).alloc (Obj.cells #[Value.int .i64 1, Value.string rb, Value.string ra, Value.bool true, Value.string ⟨#[]⟩] 89)).drew.cell? ⟨w.heap.size + 1, 3, none⟩ = some (.bool true) ∧ ((w.alloc (Obj.cells #[Value.string ra, Value.string rb, Value.string rc, Value.slice a ks.length cap] 26)).alloc (Obj.cells #[Value.int .i64 1, Value.string rb, Value.string ra, Value.bool true, Value.string ⟨#[]⟩] 89)).drew.cell? ⟨w.heap.size + 1, 4, none⟩ = some (.string ⟨#[]⟩)) := by
          refine ⟨?_, ?_, ?_, ?_, ?_, ?_⟩ <;> simp
        have hl1 : w.heap.size < ((w.alloc (Obj.cells #[Value.string ra, Value.string rb, Value.string rc, Value.slice a ks.length cap] 26)).alloc (Obj.cells #[Value.int .i64 1, Value.string rb, Value.string ra, Value.bool true, Value.string ⟨#[]⟩] 89)).drew.heap.size := by show w.heap.size < ((w.alloc (Obj.cells #[Value.string ra, Value.string rb, Value.string rc, Value.slice a ks.length cap] 26)).alloc (Obj.cells #[Value.int .i64 1, Value.string rb, Value.string ra, Value.bool true, Value.string ⟨#[]⟩] 89)).heap.size; simp <;> omega
        have hl2 : w.heap.size + 1 < ((w.alloc (Obj.cells #[Value.string ra, Value.string rb, Value.string rc, Value.slice a ks.length cap] 26)).alloc (Obj.cells #[Value.int .i64 1, Value.string rb, Value.string ra, Value.bool true, Value.string ⟨#[]⟩] 89)).drew.heap.size := by show w.heap.size + 1 < ((w.alloc (Obj.cells #[Value.string ra, Value.string rb, Value.string rc, Value.slice a ks.length cap] 26)).alloc (Obj.cells #[Value.int .i64 1, Value.string rb, Value.string ra, Value.bool true, Value.string ⟨#[]⟩] 89)).heap.size; simp
        have HC1 : Hid (Below (w.heap.size + 1) (w.alloc (Obj.cells #[Value.string ra, Value.string rb, Value.string rc, Value.slice a ks.length cap] 26)) ((w.alloc (Obj.cells #[Value.string ra, Value.string rb, Value.string rc, Value.slice a ks.length cap] 26)).alloc (Obj.cells #[Value.int .i64 1, Value.string rb, Value.string ra, Value.bool true, Value.string ⟨#[]⟩] 89)).drew) := below_drewN ((Below.refl (w.heap.size + 1) (w.alloc (Obj.cells #[Value.string ra, Value.string rb, Value.string rc, Value.slice a ks.length cap] 26))).alloc (by simp) _)
        have HL1 := hide hl1
        have HL2' := hide hl2
        clear hl1 hl2
        go_enter Tryz.func39, Tryz.ntmps39
        go_wp2
        go_region_held3 (fun W => W.cell? ⟨w.heap.size, 2, none⟩ = some (.string rc) ∧ W.cell? ⟨w.heap.size + 1, 0, none⟩ = some (.int .i64 1) ∧ W.cell? ⟨w.heap.size + 1, 1, none⟩ = some (.string rb) ∧ W.cell? ⟨w.heap.size + 1, 2, none⟩ = some (.string ra) ∧ W.cell? ⟨w.heap.size + 1, 3, none⟩ = some (.bool true) ∧ W.cell? ⟨w.heap.size + 1, 4, none⟩ = some (.string ⟨#[]⟩)) (first | exact KP.out | exact K1.out) (first
          | (go_at_call 61; refine (HPT.out _).mono ?_; rintro e w1 ⟨rfl, b1⟩; have K1 := hide (And.intro (((bcellN b1).1 _ _ HL1.out).trans KP.out.1) (And.intro (((bcellN b1).1 _ _ HL2'.out).trans KP.out.2.1) (And.intro (((bcellN b1).1 _ _ HL2'.out).trans KP.out.2.2.1) (And.intro (((bcellN b1).1 _ _ HL2'.out).trans KP.out.2.2.2.1) (And.intro (((bcellN b1).1 _ _ HL2'.out).trans KP.out.2.2.2.2.1) (((bcellN b1).1 _ _ HL2'.out).trans KP.out.2.2.2.2.2)))))))
          | (go_at_call 62; refine (HES.out _).mono ?_; rintro e w2 ⟨rfl, hw2⟩; obtain rfl := hw2.symm))
        have c1 : Below (w.heap.size + 1) (w.alloc (Obj.cells #[Value.string ra, Value.string rb, Value.string rc, Value.slice a ks.length cap] 26)) w1 := HC1.out.trans (b1.mono (Nat.succ_le_of_lt HL1.out))
        clear b1 K1
        go_wp2
        go_loopw [6, 7] (fun sv i wr => ∃ k : Nat, k ≤ ks.length ∧ i = .int .i64 k ∧ sv = .string (bytesOf (top ++ escL rc.data.toList ++ txtL (ks.take k) ra)) ∧ Below (w.heap.size + 1) (w.alloc (Obj.cells #[Value.string ra, Value.string rb, Value.string rc, Value.slice a ks.length cap] 26)) wr) (fun _ i _ => ks.length - (intOf i).toNat)
        case atStart => exact ⟨0, Nat.zero_le _, rfl, by rw [hj1.out]; simp [txtL], c1⟩
        case round =>
          obtain ⟨k, hk, rfl, rfl, hbe⟩ := hrel
          have hwr := HSZ.out _ hbe
          have hq1' : (txtL (ks.take k) ra).length ≤ 200000000 := by
            have h1 := txtL_len (ks.take k) ra
            have h2 := szL_take ks k
            have h3 : (ks.take k).length ≤ ks.length := by rw [List.length_take]; omega
            omega
          have hz3 : (bytesOf (top ++ escL rc.data.toList ++ txtL (ks.take k) ra)).size ≤ 1200000000 := by rw [bytesOf_size]; simp only [List.length_append]; omega
          have hc0 := HCE.out _ hbe
          obtain ⟨y0, y1, y2, y3⟩ := hc0
          by_cases hlt : k < ks.length
          · obtain ⟨b, o', rfl, hb, hc⟩ := (HH.out.stays (HBW.out _ hbe) hB).at (by omega)
            obtain ⟨ak, ck, hx0, hx1, hx2, hx3, hkx⟩ := hc k hlt
            clear hc
            have hcn : cntL (ks[k]).ks < K := by have := cntL_at ks k hlt; omega
            have hks : (ks[k]).szN ≤ 1048576 := by have := szL_mem ks _ (List.getElem_mem hlt); omega
            have hz4 : (bytesOf ((ks[k]).txt ra)).size ≤ 200000000 := by have := txt_len ks[k] ra; rw [bytesOf_size]; omega
            have HTL := hide (show bytesOf (top ++ escL rc.data.toList ++ txtL (ks.take k) ra) ++ bytesOf ((ks[k]).txt ra) = bytesOf (top ++ escL rc.data.toList ++ txtL (ks.take (k + 1)) ra) by rw [txtL_snoc ks k hlt ra, bytesOf_append]; simp only [List.append_assoc])
            have hBw : B ≤ wr.drew.heap.size := by show B ≤ wr.heap.size; omega
            have HQ := hide (HI.out ks[k] ra ak ck B wr.drew hcn hkx.drew hBw hks (by omega))
            have KK := hide (And.intro y0 (And.intro y3 (And.intro hx0 (And.intro hx1 (And.intro hx2 hx3)))))
            have hl1 : b < wr.drew.heap.size := by show b < wr.heap.size; omega
            have hl2 : w.heap.size < wr.drew.heap.size := by show w.heap.size < wr.heap.size; omega
            have hbd := below_drewN hbe
            generalize bytesOf ((ks[k]).txt ra) = tk at *
            generalize bytesOf (top ++ escL rc.data.toList ++ txtL (ks.take k) ra) = sk at *
            have hz5 : ¬ (9223372036854775807 < sk.size + tk.size) := by omega
            clear y1 y2
            go_wp2
            go_region_held3 (fun W => W.cell? ⟨w.heap.size, 0, none⟩ = some (.string ra) ∧ W.cell? ⟨w.heap.size, 3, none⟩ = some (.slice (some ⟨b, o', none⟩) ks.length cap) ∧ W.cell? ⟨b, o' + k * 4, none⟩ = some (.string ks[k].ns) ∧ W.cell? ⟨b, o' + k * 4 + 1, none⟩ = some (.string ks[k].nm) ∧ W.cell? ⟨b, o' + k * 4 + 2, none⟩ = some (.string ks[k].tx) ∧ W.cell? ⟨b, o' + k * 4 + 3, none⟩ = some (.slice ak ks[k].ks.length ck)) (first | exact KK.out | exact KK2.out) ((go_at_call 39; refine HQ.out.mono ?_; rintro e w3 ⟨rfl, b3⟩; have KK2 := hide (And.intro (((bcellN b3).1 _ _ hl2).trans KK.out.1) (And.intro (((bcellN b3).1 _ _ hl2).trans KK.out.2.1) (And.intro (((bcellN b3).1 _ _ hl1).trans KK.out.2.2.1) (And.intro (((bcellN b3).1 _ _ hl1).trans KK.out.2.2.2.1) (And.intro (((bcellN b3).1 _ _ hl1).trans KK.out.2.2.2.2.1) (((bcellN b3).1 _ _ hl1).trans KK.out.2.2.2.2.2))))))))
            all_goals
              have c3 := hbd.trans (b3.mono hwr)
              clear b3
              go_wp2
              go_roundw
              case rel => exact ⟨k + 1, by omega, by go_num, by rw [HTL.out], c3⟩
              case measure => simp [intOf]; omega
          · have htk : ks.take k = ks := List.take_of_length_le (by omega)
            have HJ := hide (show bytesOf (top ++ escL rc.data.toList ++ txtL (ks.take k) ra) ++ (⟨#[60, 47]⟩ : ByteArray) ++ rb ++ ⟨#[62]⟩ = bytesOf R by rw [close_joinN, htk, HR.out])
            generalize bytesOf (top ++ escL rc.data.toList ++ txtL (ks.take k) ra) = sk at *
            have hz5 : ¬ (9223372036854775807 < sk.size + 2) := by omega
            have hz6 : ¬ (9223372036854775807 < sk.size + 2 + rb.size) := by omega
            have hz7 : ¬ (9223372036854775807 < sk.size + 2 + rb.size + 1) := by omega
            go_wp2
            go_ret
            exact ⟨ret_strE HJ.out, HBW.out _ hbe⟩

theorem l8Text_all : ∀ K, TsS K := by
  intro K
  induction K with
  | zero => intro n o a cap B w hn; exact absurd hn (Nat.not_lt_zero _)
  | succ K ih => exact l8Text_step K ih

set_option maxHeartbeats 1000000 in
theorem specNodeText_any (n : Nd) (a : Option Addr) (cap B : Nat) (w : World) (h : Nds w B a n.ks) (hB : B ≤ w.heap.size) (hs : n.szN ≤ 1048576) :
    Calls Tryz.prog 17 #[.agg #[.string n.ns, .string n.nm, .string n.tx, .slice a n.ks.length cap]] w fun e w' => e = .returned (.string (nodeT n)) ∧ Below w.heap.size w w' := by
  have HB0 : Hid (Below w.heap.size w (w.alloc (Obj.cells #[Value.string n.ns, Value.string n.nm, Value.string n.tx, Value.slice a n.ks.length cap] 26))) := (Below.refl _ _).alloc (Nat.le_refl _) _
  have HX := hide (BoxN.made w a cap n 26)
  have HH := hide h
  have hq := specNodeOk_any n a cap B _ (h.stays HB0.out hB) (Nat.le_trans hB HB0.out.size) (short_sz n hs)
  have hz : nodeT n = if nodeB n then bytesOf (n.txt ByteArray.empty) else ByteArray.empty := rfl
  clear h
  generalize nodeT n = R at *
  generalize nodeB n = ok at *
  cases ok
  · simp only [Bool.false_eq_true, if_false] at hz
    subst hz
    go_enter Tryz.func17, Tryz.ntmps17
    go_wp2_with fail
    refine hq.mono ?_
    rintro e w1 ⟨rfl, b1⟩
    have c1 := HB0.out.trans (b1.mono HB0.out.size)
    go_wp2
    go_ret
    exact ⟨rfl, c1⟩
  · simp only [if_true] at hz
    subst hz
    go_enter Tryz.func17, Tryz.ntmps17
    go_wp2_with fail
    refine hq.mono ?_
    rintro e w1 ⟨rfl, b1⟩
    have c1 := HB0.out.trans (b1.mono HB0.out.size)
    have x1 := HX.out.next b1
    obtain ⟨_, x10, x11, x12, x13⟩ := x1
    have HQ := hide (l8Text_all (cntL n.ks + 1) n ByteArray.empty a cap B w1 (Nat.lt_succ_self _) (HH.out.stays c1 hB) (Nat.le_trans hB c1.size) hs (by decide))
    clear hq b1
    go_wp2_with fail
    refine HQ.out.mono ?_
    rintro e w2 ⟨rfl, b2⟩
    have c2 := c1.trans (b2.mono c1.size)
    go_wp2
    go_ret
    exact ⟨rfl, c2⟩

end Go.Proofs.YtccehdlgpbeijaaGreatDoor
namespace Go.Proofs.YtccehdlgpbeijaaGreatDoor
open Go.RowKit M
set_option linter.unusedVariables false

theorem take_mapS {ks : List Nd} {ts : List NdT} {k : Nat} (h : ts.map (·.1) = ks.take k) (hk : k < ks.length) (a : Option Addr) (c : Nat) : (ts ++ [(ks[k], a, c)]).map (·.1) = ks.take (k + 1) := by
  rw [List.map_append, h, List.take_add_one, List.getElem?_eq_getElem hk]
  rfl
theorem len_mapS {ks : List Nd} {ts : List NdT} {k : Nat} (h : ts.map (·.1) = ks.take k) (hk : k ≤ ks.length) : ts.length = k := by
  have := congrArg List.length h
  rw [List.length_map, List.length_take] at this
  omega

/-- The copy that is made: what stands in its box. -/
structure OutN (w : World) (b : Nat) (v : Value) (n : Nd) : Prop where
  lt : b < w.heap.size
  c0 : w.cell? ⟨b, 0, none⟩ = some (.string n.ns)
  c1 : w.cell? ⟨b, 1, none⟩ = some (.string n.nm)
  c2 : w.cell? ⟨b, 2, none⟩ = some (.string n.tx)
  c3 : w.cell? ⟨b, 3, none⟩ = some v
  f3 : w.frozen? ⟨b, 3, none⟩ = false
theorem OutN.keep {w w' : World} {b C : Nat} {v : Value} {n : Nd} (h : OutN w b v n) (hb : Below C w w') (hC : b < C) : OutN w' b v n :=
  ⟨Nat.lt_of_lt_of_le h.lt hb.size, by rw [hb.cell (p := ⟨b, 0, none⟩) hC]; exact h.c0, by rw [hb.cell (p := ⟨b, 1, none⟩) hC]; exact h.c1, by rw [hb.cell (p := ⟨b, 2, none⟩) hC]; exact h.c2, by rw [hb.cell (p := ⟨b, 3, none⟩) hC]; exact h.c3, by rw [hb.frozen (p := ⟨b, 3, none⟩) hC]; exact h.f3⟩
theorem OutN.set {w : World} {b : Nat} {v : Value} {n : Nd} (h : OutN w b v n) (u : Value) : OutN (w.setCell ⟨b, 3, none⟩ u) b u n :=
  ⟨by simpa using h.lt, by rw [World.cell?_setCell_other _ _ _ _ (fun e => by cases e)]; exact h.c0, by rw [World.cell?_setCell_other _ _ _ _ (fun e => by cases e)]; exact h.c1, by rw [World.cell?_setCell_other _ _ _ _ (fun e => by cases e)]; exact h.c2, World.cell?_setCell_same _ _ _ h.c3, by simpa using h.f3⟩

def CsS (K : Nat) : Prop := ∀ (n : Nd) (a : Option Addr) (cap B : Nat) (w : World), cntL n.ks < K → Nds w B a n.ks → B ≤ w.heap.size → n.szN ≤ 1048576 →
    Calls Tryz.prog 35 #[.agg #[.string n.ns, .string n.nm, .string n.tx, .slice a n.ks.length cap]] w fun e w' => (∃ (a' : Option Addr) (c' : Nat), e = .returned (.agg #[.string n.ns, .string n.nm, .string n.tx, .slice a' n.ks.length c']) ∧ OwnK w' a' n.ks (Ivl w.heap.size w'.heap.size)) ∧ Below w.heap.size w w'

set_option maxRecDepth 100000 in
set_option maxHeartbeats 4000000 in
theorem l8Copy_step (K : Nat) (ih : CsS K) : CsS (K + 1) := by
  intro n a cap B w hn h hB hs
  have HI : Hid (CsS K) := ih
  clear ih
  rw [szN_ks] at hs
  have HX0 := hide (BoxN.made w a cap n 26)
  have HX1 := hide (HX0.out.alloc (Obj.cells #[Value.string { data := #[] }, Value.string { data := #[] }, Value.string { data := #[] }, Value.slice none 0 0] 26))
  obtain ⟨ra, rb, rc, ks⟩ := n
  simp only [Nd.ns, Nd.nm, Nd.tx, Nd.ks] at *
  have HH := hide h
  clear h
  obtain ⟨W2, hW2⟩ : ∃ W2, ((w.alloc (Obj.cells #[Value.string ra, Value.string rb, Value.string rc, Value.slice a ks.length cap] 26)).alloc (Obj.cells #[Value.string { data := #[] }, Value.string { data := #[] }, Value.string { data := #[] }, Value.slice none 0 0] 26)) = W2 := ⟨_, rfl⟩
  have hB1 : Hid (Below w.heap.size w W2) := by rw [← hW2]; exact ((Below.refl _ _).alloc (Nat.le_refl _) _).alloc (by simp) _
  have HS2 : Hid (W2.heap.size = w.heap.size + 1 + 1) := by rw [← hW2]; show _ = _; simp
  rw [hW2] at HX1
  have HO0 : Hid (OutN (W2.alloc (Obj.cells #[Value.string ra, Value.string rb, Value.string rc, Value.slice none 0 0] 26)) (w.heap.size + 1 + 1) (.slice none 0 0) (.mk ra rb rc ks)) := by
    rw [← HS2.out]
    exact ⟨by simp, by simp [Nd.ns], by simp [Nd.nm], by simp [Nd.tx], by simp, by simp⟩
  have HR : Hid (∀ W' : World, Below (w.heap.size + 1 + 1) W2 W' → W'.cell? ⟨w.heap.size + 1, 0, none⟩ = some (.string { data := #[] }) ∧ W'.cell? ⟨w.heap.size + 1, 1, none⟩ = some (.string { data := #[] }) ∧ W'.cell? ⟨w.heap.size + 1, 2, none⟩ = some (.string { data := #[] }) ∧ W'.cell? ⟨w.heap.size + 1, 3, none⟩ = some (.slice none 0 0) ∧ W'.frozen? ⟨w.heap.size + 1, 0, none⟩ = false ∧ W'.frozen? ⟨w.heap.size + 1, 1, none⟩ = false ∧ W'.frozen? ⟨w.heap.size + 1, 2, none⟩ = false ∧ W'.frozen? ⟨w.heap.size + 1, 3, none⟩ = false) := fun W' hb => by
    have hc := fun (i o : Nat) (hi : i < w.heap.size + 1 + 1) => hb.cell (p := ⟨i, o, none⟩) hi
    have hf := fun (i o : Nat) (hi : i < w.heap.size + 1 + 1) => hb.frozen (p := ⟨i, o, none⟩) hi
    refine ⟨?_, ?_, ?_, ?_, ?_, ?_, ?_, ?_⟩
    all_goals first | rw [hc _ _ (by omega), ← hW2] | rw [hf _ _ (by omega), ← hW2]
    all_goals simp
  have HC3 : Hid (∀ W' : World, Below (w.heap.size + 1 + 1) W2 W' → Below w.heap.size w W' ∧ w.heap.size + 1 + 1 ≤ W'.heap.size ∧ W'.cell? ⟨w.heap.size, 3, none⟩ = some (.slice a ks.length cap)) := fun W' hb => ⟨hB1.out.trans (hb.mono (by omega)), by have := hb.size; rw [HS2.out] at this; exact this, (HX1.out.keep hb (by omega)).c3⟩
  have HW2 := hide hW2
  clear hW2
  go_enter Tryz.func35, Tryz.ntmps35
  go_wp2
  go_loopw [4] (fun i wr => ∃ (k : Nat) (ts : List NdT) (v : Value), k ≤ ks.length ∧ i = .int .i64 k ∧ ts.map (·.1) = ks.take k ∧ OutN wr (w.heap.size + 1 + 1) v (.mk ra rb rc ks) ∧ GrowK wr (w.heap.size + 1 + 1 + 1) v ts wr.heap.size ∧ Below (w.heap.size + 1 + 1) W2 wr) (fun i _ => ks.length - (intOf i).toNat)
  case atStart =>
    rw [HW2.out]
    exact ⟨0, [], _, Nat.zero_le _, rfl, rfl, HO0.out, GrowK.nil _ _ (by simp [HS2.out]), (Below.refl _ _).alloc (by rw [HS2.out]; exact Nat.le_refl _) _⟩
  case round =>
    obtain ⟨k, ts, v, hk, rfl, hts, hO, hG, hbe⟩ := hrel
    obtain ⟨c0, hwr, y3⟩ := HC3.out _ hbe
    have HTL := hide (len_mapS hts hk)
    have hlt9 := hO.lt
    by_cases hlt : k < ks.length
    · obtain ⟨b, o, rfl, hb, hc⟩ := (HH.out.stays c0 hB).at (by omega)
      obtain ⟨ak, ck, hx0, hx1, hx2, hx3, hkx⟩ := hc k hlt
      clear hc
      have hcn : cntL (ks[k]).ks < K := by have := cntL_at ks k hlt; omega
      have hks : (ks[k]).szN ≤ 1048576 := by have := szL_mem ks _ (List.getElem_mem hlt); omega
      have hBw : B ≤ wr.heap.size := by omega
      have HQ := hide (HI.out ks[k] ak ck B wr hcn hkx hBw hks)
      have HTS := hide (take_mapS hts hlt)
      clear hts
      obtain ⟨av, cv, rfl⟩ := hG.slice
      have HG0 := hide hG
      clear hG
      have HO := hide hO
      clear hO
      go_wp2_with fail
      refine HQ.out.mono ?_
      rintro e w1 ⟨⟨a', c', rfl, o1⟩, b1⟩
      have hb2 := ((Below.refl w1.heap.size w1).alloc (Nat.le_refl _) (Obj.cells #[.string (ks[k]).ns, .string (ks[k]).nm, .string (ks[k]).tx, .slice a' (ks[k]).ks.length c'] 26)).alloc (by simp) (Obj.cells #[.string (ks[k]).ns, .string (ks[k]).nm, .string (ks[k]).tx, .slice a' (ks[k]).ks.length c'] 26)
      have HB2 := hide hb2
      have HG2 := hide ((HG0.out.next b1).next hb2)
      have HO2 := hide (OwnK.wide (o1.stays hb2 (fun x hx => hx.2)) (T := Ivl wr.heap.size ((w1.alloc (Obj.cells #[.string (ks[k]).ns, .string (ks[k]).nm, .string (ks[k]).tx, .slice a' (ks[k]).ks.length c'] 26)).alloc (Obj.cells #[.string (ks[k]).ns, .string (ks[k]).nm, .string (ks[k]).tx, .slice a' (ks[k]).ks.length c'] 26)).heap.size) (fun x hx => by unfold Ivl at hx ⊢; simp at hx ⊢; omega))
      have hz1 := b1.size
      have HU1 := hide (HO.out.keep b1 hlt9)
      have HU2 := hide (HU1.out.keep hb2 (by omega))
      have c6 := (hbe.trans (b1.mono hwr)).trans (hb2.mono (by omega))
      have u1 := HU1.out.c3
      have u2 := (HU1.out.keep ((Below.refl w1.heap.size w1).alloc (Nat.le_refl _) (Obj.cells #[.string (ks[k]).ns, .string (ks[k]).nm, .string (ks[k]).tx, .slice a' (ks[k]).ks.length c'] 26)) (by omega)).c3
      clear HG0 o1 b1 hb2 HQ y3
      go_wp2_with (at_builtin; refine wp_append_node rfl _ _ rfl (w.heap.size + 1 + 1 + 1) wr.heap.size _ ts rfl HG2.out _ ks[k] a' c' rfl ?c0 ?c1 ?c2 ?c3 ?c4 ?c5 ?c6 ?_)
      case c0 => simp
      case c1 => simp
      case c2 => simp
      case c3 => simp
      case c4 => have := HTL.out; omega
      case c5 => omega
      case c6 => exact HO2.out
      intro g4 cap4 w4 o4 b4
      have HU4 := hide (HU2.out.keep b4 (by omega))
      have v0 := HU4.out.c3
      have v1 := HU4.out.f3
      have G5 := hide (o4.store ⟨w.heap.size + 1 + 1, 3, none⟩ (.slice (some ⟨g4, 0, none⟩) (ts.length + 1) cap4) (by simp))
      have U5 := hide (HU4.out.set (.slice (some ⟨g4, 0, none⟩) (ts.length + 1) cap4))
      have B4 := hide ((c6.trans (b4.mono (by omega))).setCell (p := ⟨w.heap.size + 1 + 1, 3, none⟩) (by simp) (.slice (some ⟨g4, 0, none⟩) (ts.length + 1) cap4))
      clear o4 b4 HG2 HO2 u1 u2
      go_wp2
      go_roundw
      case rel => exact ⟨k + 1, _, _, by omega, by go_num, HTS.out a' c', U5.out, by have := G5.out; simpa using this, B4.out⟩
      case measure => simp [intOf]; omega
    · have htk : ks.take k = ks := List.take_of_length_le (by omega)
      rw [htk] at hts
      have hkl : ts.length = ks.length := by have := HTL.out; omega
      obtain ⟨av, cv, rfl, hown⟩ := hG.done
      rw [hts] at hown
      rw [hkl] at hO
      have HOW := hide hown
      clear hown hts htk hG hkl
      obtain ⟨_, o0, o1, o2, o3, _⟩ := hO
      simp only [Nd.ns, Nd.nm, Nd.tx] at o0 o1 o2
      obtain ⟨r0, r1, r2, r3, f0, f1, f2, f3⟩ := HR.out _ hbe
      go_wp2
      refine bodyPost_ret (v := .agg #[.string ra, .string rb, .string rc, .slice av ks.length cv]) (by simp [results, Tryz.results35, go_sem, r0, r1, r2, r3]) rfl ⟨⟨av, cv, rfl, ?_⟩, ?_⟩
      · refine OwnK.wide ((((HOW.out.setCell _ _ (by unfold Ivl; simp; omega)).setCell _ _ (by unfold Ivl; simp; omega)).setCell _ _ (by unfold Ivl; simp; omega)).setCell _ _ (by unfold Ivl; simp; omega)) (fun x hx => ?_)
        unfold Ivl at hx ⊢
        simp
        omega
      · exact (((c0.setCell (by simp) _).setCell (by simp) _).setCell (by simp) _).setCell (by simp) _

theorem l8Copy_all : ∀ K, CsS K := by
  intro K
  induction K with
  | zero => intro n a cap B w hn; exact absurd hn (Nat.not_lt_zero _)
  | succ K ih => exact l8Copy_step K ih
end Go.Proofs.YtccehdlgpbeijaaGreatDoor
