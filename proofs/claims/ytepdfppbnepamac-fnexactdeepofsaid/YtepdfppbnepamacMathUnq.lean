/-
  Plain facts on what is unquoted: no program in sight.
-/
import Derived.Test.YtepdfppbnepamacMathNum
import Derived.Test.YtepdfppbnepamacMathHex
namespace Go.Proofs.Ytepdfppbnepamac.M

/-- The byte of two digits. -/
def hx (a b : UInt8) : UInt8 := UInt8.ofNat (hexW a * 16 + hexW b)

theorem u8_37 {c : UInt8} (h : ((c.toNat : Int) == 37) = true) : c = 37 := by
  have h' : c.toNat = 37 := by simp at h; omega
  exact UInt8.toNat_inj.1 (by rw [h']; rfl)

/-- What these bytes are, unquoted. -/
def unq : List UInt8 → Option (List UInt8)
  | [] => some []
  | c :: r => if c = 37 then
      (match r with
       | a :: b :: q => if isHex a && isHex b then (unq q).map (hx a b :: ·) else none
       | _ => none)
    else (unq r).map (c :: ·)

/-- .. as the two answers. -/
def unqR (l : List UInt8) : List UInt8 × Bool := match unq l with | some x => (x, true) | none => ([], false)

theorem unq_plain {c : UInt8} (r : List UInt8) (h : ¬ c = 37) : unq (c :: r) = (unq r).map (c :: ·) := by
  rw [unq.eq_def]; simp only [h, if_false]
theorem unq_short {c : UInt8} (r : List UInt8) (h : c = 37) (hr : r.length < 2) : unq (c :: r) = none := by
  rw [unq.eq_def]; simp only [h, if_true]
  match r, hr with
  | [], _ => rfl
  | [_], _ => rfl
theorem unq_bad {c a b : UInt8} (q : List UInt8) (h : c = 37) (hb : (isHex a && isHex b) = false) : unq (c :: a :: b :: q) = none := by
  rw [unq.eq_def]; simp [h, hb]
theorem unq_hex {c a b : UInt8} (q : List UInt8) (h : c = 37) (ha : isHex a = true) (hb : isHex b = true) : unq (c :: a :: b :: q) = (unq q).map (hx a b :: ·) := by
  rw [unq.eq_def]; simp [h, ha, hb]

theorem drop_at (s : ByteArray) (k : Nat) (h : k < s.size) : s.data.toList.drop k = s[k] :: s.data.toList.drop (k + 1) := by
  have e : s.data.toList.length = s.size := Array.length_toList
  rw [List.drop_eq_getElem_cons (by omega)]
  rfl

theorem drop_end (s : ByteArray) (k : Nat) (h : ¬ k < s.size) : s.data.toList.drop k = [] := by
  have e : s.data.toList.length = s.size := Array.length_toList
  exact List.drop_of_length_le (by omega)

/-- What is read so far, and what is left: together all. -/
def UnqAt (s : ByteArray) (k : Nat) (acc : List UInt8) : Prop := k ≤ s.size ∧ acc.length ≤ k ∧ unq s.data.toList = (unq (s.data.toList.drop k)).map (acc ++ ·)

theorem UnqAt.start (s : ByteArray) : UnqAt s 0 [] := ⟨Nat.zero_le _, Nat.le_refl _, by simp⟩

theorem UnqAt.plain {s : ByteArray} {k : Nat} {acc : List UInt8} (h : UnqAt s k acc) (hk : k < s.size) (hc : ¬ s[k] = 37) : UnqAt s (k + 1) (acc ++ [s[k]]) := by
  obtain ⟨h1, h2, h3⟩ := h
  refine ⟨by omega, by simp; omega, ?_⟩
  rw [h3, drop_at s k hk, unq_plain _ hc, Option.map_map]
  congr 1
  funext x
  simp [Function.comp]

theorem UnqAt.hex {s : ByteArray} {k : Nat} {acc : List UInt8} (h : UnqAt s k acc) (hk : k + 2 < s.size) (hc : s[k] = 37) (ha : isHex s[k + 1] = true) (hb : isHex s[k + 2] = true) : UnqAt s (k + 3) (acc ++ [hx s[k + 1] s[k + 2]]) := by
  obtain ⟨h1, h2, h3⟩ := h
  refine ⟨by omega, by simp; omega, ?_⟩
  rw [h3, drop_at s k (by omega), drop_at s (k + 1) (by omega), drop_at s (k + 2) (by omega), unq_hex _ hc ha hb, Option.map_map]
  congr 1
  funext x
  simp [Function.comp]

theorem UnqAt.short {s : ByteArray} {k : Nat} {acc : List UInt8} (h : UnqAt s k acc) (hk : k < s.size) (hc : s[k] = 37) (hl : s.size ≤ k + 2) : unqR s.data.toList = ([], false) := by
  obtain ⟨h1, h2, h3⟩ := h
  have e : s.data.toList.length = s.size := Array.length_toList
  unfold unqR
  rw [h3, drop_at s k hk, unq_short _ hc (by rw [List.length_drop]; omega)]
  rfl

theorem UnqAt.bad {s : ByteArray} {k : Nat} {acc : List UInt8} (h : UnqAt s k acc) (hk : k + 2 < s.size) (hc : s[k] = 37) (hb : (isHex s[k + 1] && isHex s[k + 2]) = false) : unqR s.data.toList = ([], false) := by
  obtain ⟨h1, h2, h3⟩ := h
  unfold unqR
  rw [h3, drop_at s k (by omega), drop_at s (k + 1) (by omega), drop_at s (k + 2) (by omega), unq_bad _ hc hb]
  rfl

theorem UnqAt.done {s : ByteArray} {k : Nat} {acc : List UInt8} (h : UnqAt s k acc) (hk : ¬ k < s.size) : unqR s.data.toList = (acc, true) := by
  obtain ⟨h1, h2, h3⟩ := h
  unfold unqR
  rw [h3, drop_end s k hk]
  simp [unq]

theorem hx_nat {a b : UInt8} (ha : isHex a = true) (hb : isHex b = true) : ((hx a b).toNat : Int) = (hexW a : Int) * 16 + hexW b := by
  have h1 := hexW_lt ha
  have h2 := hexW_lt hb
  unfold hx
  rw [UInt8.toNat_ofNat']
  omega

theorem extract_two (s : ByteArray) (k : Nat) (h : k + 2 < s.size) : (s.extract (k + 1) (k + 3)).data.toList = [s[k + 1], s[k + 2]] := by
  have e : s.data.toList.length = s.size := Array.length_toList
  have h1 : (s.extract (k + 1) (k + 3)).data = s.data.extract (k + 1) (k + 3) := by simp
  rw [h1, Array.toList_extract]
  show (s.data.toList.drop (k + 1)).take (k + 3 - (k + 1)) = _
  rw [drop_at s (k + 1) (by omega), drop_at s (k + 2) (by omega), show k + 3 - (k + 1) = 2 by omega]
  rfl

theorem parseHex_two (a b : UInt8) : parseHex [a, b] = if (isHex a && isHex b) then ((hexW a : Int) * 16 + hexW b, true) else (0, false) := by
  have hh : hexs [a, b] = (isHex a && isHex b) := by simp [hexs, allB, isHex]
  unfold parseHex hexB
  rw [hh]
  cases h : (isHex a && isHex b)
  · simp
  · simp [hexVal]
end Go.Proofs.Ytepdfppbnepamac.M
