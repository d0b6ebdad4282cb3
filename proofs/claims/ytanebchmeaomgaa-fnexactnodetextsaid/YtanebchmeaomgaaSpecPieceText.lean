/-
  What the specification's PieceText does.
-/
import Derived.Test.YtanebchmeaomgaaMathPieces
import Derived.Test.YtanebchmeaomgaaHide
import Derived.Test.YtanebchmeaomgaaSpecEscape
namespace Go.Proofs.Ytanebchmeaomgaa
open Go.RowKit M
set_option linter.unusedVariables false

theorem spc_joinS (l : List UInt8) : (⟨#[32, 120, 109, 108, 110, 115, 61, 34]⟩ : ByteArray) ++ bytesOf l ++ ⟨#[34]⟩ = bytesOf (spcS ++ l ++ [34]) := by
  apply ByteArray.ext
  simp [bytesOf, spcS]
theorem mk_1 {p : Pce} (h : p.k = 1) (x : ByteArray) (hx : x = bytesOf (spcT p)) : (⟨#[60]⟩ : ByteArray) ++ p.name ++ x ++ ⟨#[62]⟩ = bytesOf (markT p) := by
  subst hx
  unfold markT
  rw [if_pos h]
  apply ByteArray.ext
  simp [bytesOf]
theorem mk_2 {p : Pce} (h : p.k = 2) : (⟨#[60, 47]⟩ : ByteArray) ++ p.name ++ ⟨#[62]⟩ = bytesOf (markT p) := by
  unfold markT
  rw [if_neg (by omega), if_pos h]
  apply ByteArray.ext
  simp [bytesOf]
theorem mk_3 {p : Pce} (h : p.k = 3) (x : ByteArray) (hx : x = bytesOf (spcT p)) : (⟨#[60]⟩ : ByteArray) ++ p.name ++ x ++ ⟨#[47, 62]⟩ = bytesOf (markT p) := by
  subst hx
  unfold markT
  rw [if_neg (by omega), if_neg (by omega), if_pos h]
  apply ByteArray.ext
  simp [bytesOf]
theorem mk_4 {p : Pce} (h1 : p.k ≠ 1) (h2 : p.k ≠ 2) (h3 : p.k ≠ 3) : bytesOf (escL p.s.data.toList) = bytesOf (markT p) := by
  unfold markT
  rw [if_neg h1, if_neg h2, if_neg h3]
theorem isIS (k z : Int) : (k == z) = decide (k = z) := by rw [Bool.eq_iff_iff]; simp

set_option maxRecDepth 100000 in
set_option maxHeartbeats 4000000 in
theorem specPieceText_any (p : Pce) (w : World) (h1 : p.name.size ≤ 1099511627776) (h2 : p.ns.size ≤ 1099511627776) (h3 : p.s.size ≤ 1099511627776) :
    Calls Try.prog 26 #[.agg #[.int .i64 p.k, .string p.name, .string p.ns, .bool p.has, .string p.s]] w fun e w' => e = .returned (.string (bytesOf (markT p))) ∧ Below w.heap.size w w' := by
  have HN := hide (fun W : World => specEscape_any p.ns W h2)
  have HS := hide (fun W : World => specEscape_any p.s W h3)
  have hz : (bytesOf (escL p.ns.data.toList)).size ≤ 6 * p.ns.size := by
    rw [bytesOf_size]
    have h1 := escL_le p.ns.data.toList
    have h2 : p.ns.data.toList.length = p.ns.size := Array.length_toList
    omega
  have HJ := hide (spc_joinS (escL p.ns.data.toList))
  obtain ⟨x, hx⟩ : ∃ x, bytesOf (escL p.ns.data.toList) = x := ⟨_, rfl⟩
  rw [hx] at HN hz HJ
  have HX := hide hx
  clear hx
  have M1 := hide (fun h => mk_1 (p := p) h)
  have M2 := hide (fun h => mk_2 (p := p) h)
  have M3 := hide (fun h => mk_3 (p := p) h)
  have M4 := hide (fun h1 h2 h3 => mk_4 (p := p) h1 h2 h3)
  have e1 := isIS p.k 1
  have e2 := isIS p.k 2
  have e3 := isIS p.k 3
  have SP : Hid (∀ y, y = (if p.has then (⟨#[32, 120, 109, 108, 110, 115, 61, 34]⟩ : ByteArray) ++ x ++ ⟨#[34]⟩ else ⟨#[]⟩) → y = bytesOf (spcT p)) := by
    intro y hy
    rw [hy]
    unfold spcT
    cases p.has
    · rfl
    · exact HJ.out
  obtain ⟨k, name, ns, has, s⟩ := p
  simp only at *
  have q1 : ¬ (9223372036854775807 < 8 + x.size) := by omega
  have q2 : ¬ (9223372036854775807 < 8 + x.size + 1) := by omega
  have q3 : ¬ (9223372036854775807 < 1 + name.size) := by omega
  have q4 : ¬ (9223372036854775807 < 1 + name.size + 0) := by omega
  have q5 : ¬ (9223372036854775807 < 1 + name.size + 0 + 1) := by omega
  have q6 : ¬ (9223372036854775807 < 1 + name.size + 0 + 2) := by omega
  have q7 : ¬ (9223372036854775807 < 1 + name.size + 1) := by omega
  have q8 : ¬ (9223372036854775807 < 1 + name.size + 2) := by omega
  have q9 : ¬ (9223372036854775807 < 2 + name.size) := by omega
  have q10 : ¬ (9223372036854775807 < 2 + name.size + 1) := by omega
  have q11 : ¬ (9223372036854775807 < 1 + name.size + (8 + x.size + 1)) := by omega
  have q12 : ¬ (9223372036854775807 < 1 + name.size + (8 + x.size + 1) + 1) := by omega
  have q13 : ¬ (9223372036854775807 < 1 + name.size + (8 + x.size + 1) + 2) := by omega
  clear HJ
  by_cases k1 : k = 1
  · rw [decide_eq_true k1] at e1
    cases has
    · have HR := hide (M1.out k1 _ (SP.out _ rfl))
      clear k1 M1 M2 M3 M4 SP e2 e3
      go_enter Try.func26, Try.ntmps26
      go_wp2
      go_ret
      exact ⟨ret_strE HR.out, (Below.refl _ _).alloc (Nat.le_refl _) _⟩
    · have HR := hide (M1.out k1 _ (SP.out _ rfl))
      clear k1 M1 M2 M3 M4 SP e2 e3
      go_enter Try.func26, Try.ntmps26
      go_wp2_with fail
      refine (HN.out _).mono ?_
      rintro e w1 ⟨rfl, rfl⟩
      go_wp2
      go_ret
      exact ⟨ret_strE HR.out, (Below.refl _ _).alloc (Nat.le_refl _) _⟩
  rw [decide_eq_false k1] at e1
  by_cases k2 : k = 2
  · rw [decide_eq_true k2] at e2
    have HR := hide (M2.out k2)
    clear k1 k2 M1 M2 M3 M4 SP e3
    cases has
    · go_enter Try.func26, Try.ntmps26
      go_wp2
      go_ret
      exact ⟨ret_strE HR.out, (Below.refl _ _).alloc (Nat.le_refl _) _⟩
    · go_enter Try.func26, Try.ntmps26
      go_wp2_with fail
      refine (HN.out _).mono ?_
      rintro e w1 ⟨rfl, rfl⟩
      go_wp2
      go_ret
      exact ⟨ret_strE HR.out, (Below.refl _ _).alloc (Nat.le_refl _) _⟩
  rw [decide_eq_false k2] at e2
  by_cases k3 : k = 3
  · rw [decide_eq_true k3] at e3
    cases has
    · have HR := hide (M3.out k3 _ (SP.out _ rfl))
      clear k1 k2 k3 M1 M2 M3 M4 SP
      go_enter Try.func26, Try.ntmps26
      go_wp2
      go_ret
      exact ⟨ret_strE HR.out, (Below.refl _ _).alloc (Nat.le_refl _) _⟩
    · have HR := hide (M3.out k3 _ (SP.out _ rfl))
      clear k1 k2 k3 M1 M2 M3 M4 SP
      go_enter Try.func26, Try.ntmps26
      go_wp2_with fail
      refine (HN.out _).mono ?_
      rintro e w1 ⟨rfl, rfl⟩
      go_wp2
      go_ret
      exact ⟨ret_strE HR.out, (Below.refl _ _).alloc (Nat.le_refl _) _⟩
  rw [decide_eq_false k3] at e3
  have HR := hide (M4.out k1 k2 k3)
  clear k1 k2 k3 M1 M2 M3 M4 SP
  cases has
  · go_enter Try.func26, Try.ntmps26
    go_wp2_with fail
    refine (HS.out _).mono ?_
    rintro e w1 ⟨rfl, rfl⟩
    go_wp2
    go_ret
    exact ⟨ret_strE HR.out, (Below.refl _ _).alloc (Nat.le_refl _) _⟩
  · go_enter Try.func26, Try.ntmps26
    go_wp2_with fail
    refine (HN.out _).mono ?_
    rintro e w1 ⟨rfl, rfl⟩
    go_wp2_with fail
    refine (HS.out _).mono ?_
    rintro e w1 ⟨rfl, rfl⟩
    go_wp2
    go_ret
    exact ⟨ret_strE HR.out, (Below.refl _ _).alloc (Nat.le_refl _) _⟩
end Go.Proofs.Ytanebchmeaomgaa
