/-
  Whether a mark is one of a list: what both sides do.
  Changes on both sides.
  Plain facts on what is unquoted: no program in sight.
  Plain facts on texts that are cut at slashes, and on what is walked of the pieces: no program in sight.
  What is quoted comes back, and is plain: no program in sight.
  A path comes back of its text; what is read is a path: no program in sight.
  What is read of a request, and its code: no program in sight.
  Slices of heads: what they hold, and that it stays.
  What the specification's and the program's HeadOf do.
  What the program's Lower does.
  What spec.l1Large does.
  What the specification's Lower does.
-/
import Derived.Test.YtfhcniifennfbaaGreatDoorHas9
import Derived.Test.YtfhcniifennfbaaGreatDoorMathMark2
import Derived.Test.YtfhcniifennfbaaGreatDoorMathLock
import Derived.Test.YtfhcniifennfbaaGreatDoorMathHex
import Derived.Lib.Split
import Derived.Lib.SplitLaws
import Derived.Lib.IndexBytes
import Derived.Test.YtfhcniifennfbaaGreatDoorTurn
import Derived.Test.YtfhcniifennfbaaGreatDoorSliceEq
import Derived.Test.YtfhcniifennfbaaGreatDoorRows
import Derived.WalkKit
import Derived.WalkSpells
import Derived.WalkLawsBesides
import Derived.Deep.Light
import Derived.Deep.QuietTactic
import Derived.Deep.OwnRows
import Derived.Test.YtfhcniifennfbaaGreatDoorKinds
import Derived.Lib.ConvBytes
import Derived.Test.YtfhcniifennfbaaGreatDoorAt7
namespace Go.Proofs.YtfhcniifennfbaaGreatDoor
open Go.RowKit M
set_option linter.unusedVariables false

theorem has_contains (ns : List ByteArray) (t : ByteArray) : Lib.containsS ns t = hasB ns t := by
  cases h : Lib.containsS ns t
  · symm
    apply hasB_no
    intro hm
    rw [(Lib.containsS_iff ns t).2 hm] at h
    cases h
  · exact ((hasB_iff ns t).2 ((Lib.containsS_iff ns t).1 h)).symm
theorem contains_any (g n cap : Nat) (ns : List ByteArray) (t : ByteArray) (w : World) (hn : ns.length = n) (hl : n ≤ 1000) (hc : ∀ j (hj : j < ns.length), w.cell? ⟨g, j, none⟩ = some (.string ns[j])) :
    Calls Tryz.prog 195 #[.slice (some ⟨g, 0, none⟩) n cap, .string t] w fun e w' => e = .returned (.bool (hasB ns t)) ∧ w' = w := by
  subst hn
  have h := Tryz.slices_Contains_string g 0 ns.length cap ns t w (Nat.le_refl _) (by omega) (fun j hj => by rw [Nat.zero_add, hc j hj]; simp [List.getD, List.getElem?_eq_getElem hj])
  rw [List.take_length, has_contains] at h
  exact h

theorem tgs_len9 : ∀ (f : Nat) (l : List UInt8) (acc x : List (List UInt8)), acc.length ≤ 5 → tgs f l acc = some x → x.length ≤ 5
  | 0, l, acc, x, _, h => by rw [tgs] at h; cases h
  | f + 1, l, acc, x, ha, h => by
    rw [tgs] at h
    split at h
    · cases h
    · split at h
      · cases h
      · split at h
        · cases h; simp; omega
        · split at h
          · exact tgs_len9 f _ _ x (by simp; omega) h
          · cases h
theorem tagsR_len9 (l : List UInt8) : (tagsR l).1.length ≤ 5 := by
  unfold tagsR
  split
  · simp
  · split
    · rename_i h; exact tgs_len9 _ _ _ _ (by simp) h
    · simp

/-- Whether a mark is named. -/
def namB (l : List UInt8) (t : ByteArray) : Bool := decide (l = [42]) || hasB ((tagsR l).1.map bytesOf) t
theorem namB_star {l : List UInt8} {t : ByteArray} (h : l = [42]) : namB l t = true := by simp [namB, h]
theorem namB_not {l : List UInt8} {t : ByteArray} (h : ¬ l = [42]) : namB l t = hasB ((tagsR l).1.map bytesOf) t := by simp [namB, h]
theorem tagsR_bad {l : List UInt8} (h : (tagsR l).2 = false) : (tagsR l).1 = [] ∧ ¬ l = [42] := by
  unfold tagsR at *
  split at h
  · cases h
  · rename_i h42
    rw [if_neg h42]
    split at h
    · cases h
    · exact ⟨rfl, h42⟩
theorem namB_bad {l : List UInt8} {t : ByteArray} (h : (tagsR l).2 = false) : namB l t = false := by
  obtain ⟨h1, h2⟩ := tagsR_bad h
  rw [namB_not h2, h1]; rfl

set_option maxHeartbeats 1000000 in
theorem isNamed_any (s t : ByteArray) (w : World) (hs : s.size ≤ 1048576) :
    Calls Tryz.prog 169 #[.string s, .string t] w fun e w' => e = .returned (.bool (namB s.data.toList t)) ∧ Below w.heap.size w w' := by
  have HP := hide (parseTags_any s w hs)
  have HST := star_iff s
  by_cases h0 : s.data.toList = [42]
  · have HR := hide (namB_star (t := t) h0)
    rw [decide_eq_true h0] at HST
    clear h0
    go_enter Tryz.func169, Tryz.ntmps169
    go_wp2_with fail
    refine HP.out.mono ?_
    rintro e w1 ⟨⟨v, rfl, ho⟩, b1⟩
    clear ho
    go_wp2
    go_ret
    exact ⟨ret_bool HR.out.symm, b1⟩
  · have HR := hide (namB_not (t := t) h0)
    rw [decide_eq_false h0] at HST
    clear h0
    have h5 := tagsR_len9 s.data.toList
    go_enter Tryz.func169, Tryz.ntmps169
    go_wp2_with fail
    refine HP.out.mono ?_
    rintro e w1 ⟨⟨v, rfl, ho⟩, b1⟩
    obtain ⟨g, cap, rfl, _, _, _, _, hcs⟩ := ho
    have HC := hide (contains_any g _ cap _ t w1 rfl (by rw [List.length_map]; omega) (fun j hj => (hcs j hj).1))
    clear hcs h5
    obtain ⟨n, hn⟩ : ∃ n, ((tagsR s.data.toList).1.map bytesOf).length = n := ⟨_, rfl⟩
    rw [hn] at HC
    rw [hn]
    clear hn
    go_wp2_with fail
    refine HC.out.mono ?_
    rintro e w2 ⟨rfl, hw⟩
    obtain rfl := hw.symm
    go_wp2
    go_ret
    exact ⟨ret_bool HR.out.symm, b1⟩
end Go.Proofs.YtfhcniifennfbaaGreatDoor
namespace Go.Proofs.YtfhcniifennfbaaGreatDoor
open Go.RowKit M
set_option linter.unusedVariables false

/-- The methods that change what is there. -/
def chNs : List ByteArray := [⟨#[80, 85, 84]⟩, ⟨#[77, 75, 67, 79, 76]⟩, ⟨#[68, 69, 76, 69, 84, 69]⟩, ⟨#[67, 79, 80, 89]⟩, ⟨#[77, 79, 86, 69]⟩, ⟨#[80, 82, 79, 80, 80, 65, 84, 67, 72]⟩, ⟨#[76, 79, 67, 75]⟩, ⟨#[85, 78, 76, 79, 67, 75]⟩]
def chB (s : ByteArray) : Bool := hasB chNs s
theorem ch_eq0 (s : ByteArray) : (s.toList == [80, 85, 84]) = decide (s = ⟨#[80, 85, 84]⟩) := by
  have h := str_eq s ⟨#[80, 85, 84]⟩
  rwa [show (⟨#[80, 85, 84]⟩ : ByteArray).toList = [80, 85, 84] by kernel_rfl] at h
theorem ch_eq1 (s : ByteArray) : (s.toList == [77, 75, 67, 79, 76]) = decide (s = ⟨#[77, 75, 67, 79, 76]⟩) := by
  have h := str_eq s ⟨#[77, 75, 67, 79, 76]⟩
  rwa [show (⟨#[77, 75, 67, 79, 76]⟩ : ByteArray).toList = [77, 75, 67, 79, 76] by kernel_rfl] at h
theorem ch_eq2 (s : ByteArray) : (s.toList == [68, 69, 76, 69, 84, 69]) = decide (s = ⟨#[68, 69, 76, 69, 84, 69]⟩) := by
  have h := str_eq s ⟨#[68, 69, 76, 69, 84, 69]⟩
  rwa [show (⟨#[68, 69, 76, 69, 84, 69]⟩ : ByteArray).toList = [68, 69, 76, 69, 84, 69] by kernel_rfl] at h
theorem ch_eq3 (s : ByteArray) : (s.toList == [67, 79, 80, 89]) = decide (s = ⟨#[67, 79, 80, 89]⟩) := by
  have h := str_eq s ⟨#[67, 79, 80, 89]⟩
  rwa [show (⟨#[67, 79, 80, 89]⟩ : ByteArray).toList = [67, 79, 80, 89] by kernel_rfl] at h
theorem ch_eq4 (s : ByteArray) : (s.toList == [77, 79, 86, 69]) = decide (s = ⟨#[77, 79, 86, 69]⟩) := by
  have h := str_eq s ⟨#[77, 79, 86, 69]⟩
  rwa [show (⟨#[77, 79, 86, 69]⟩ : ByteArray).toList = [77, 79, 86, 69] by kernel_rfl] at h
theorem ch_eq5 (s : ByteArray) : (s.toList == [80, 82, 79, 80, 80, 65, 84, 67, 72]) = decide (s = ⟨#[80, 82, 79, 80, 80, 65, 84, 67, 72]⟩) := by
  have h := str_eq s ⟨#[80, 82, 79, 80, 80, 65, 84, 67, 72]⟩
  rwa [show (⟨#[80, 82, 79, 80, 80, 65, 84, 67, 72]⟩ : ByteArray).toList = [80, 82, 79, 80, 80, 65, 84, 67, 72] by kernel_rfl] at h
theorem ch_eq6 (s : ByteArray) : (s.toList == [76, 79, 67, 75]) = decide (s = ⟨#[76, 79, 67, 75]⟩) := by
  have h := str_eq s ⟨#[76, 79, 67, 75]⟩
  rwa [show (⟨#[76, 79, 67, 75]⟩ : ByteArray).toList = [76, 79, 67, 75] by kernel_rfl] at h
theorem ch_eq7 (s : ByteArray) : (s.toList == [85, 78, 76, 79, 67, 75]) = decide (s = ⟨#[85, 78, 76, 79, 67, 75]⟩) := by
  have h := str_eq s ⟨#[85, 78, 76, 79, 67, 75]⟩
  rwa [show (⟨#[85, 78, 76, 79, 67, 75]⟩ : ByteArray).toList = [85, 78, 76, 79, 67, 75] by kernel_rfl] at h

set_option maxHeartbeats 4000000 in
theorem changes_any (s : ByteArray) (w : World) : Calls Tryz.prog 159 #[.string s] w fun e w' => e = .returned (.bool (chB s)) ∧ Below w.heap.size w w' := by
  have f0 := ch_eq0 s
  have f1 := ch_eq1 s
  have f2 := ch_eq2 s
  have f3 := ch_eq3 s
  have f4 := ch_eq4 s
  have f5 := ch_eq5 s
  have f6 := ch_eq6 s
  have f7 := ch_eq7 s
  by_cases e0 : s = ⟨#[80, 85, 84]⟩
  · have HB := hide (show chB s = true from (hasB_iff chNs s).2 (by rw [e0]; simp [chNs]))
    rw [decide_eq_true e0] at f0
    clear e0 f1 f2 f3 f4 f5 f6 f7
    go_enter Tryz.func159, Tryz.ntmps159
    go_wp2
    go_ret
    exact ⟨ret_bool HB.out.symm, Below.refl _ _⟩
  rw [decide_eq_false e0] at f0
  by_cases e1 : s = ⟨#[77, 75, 67, 79, 76]⟩
  · have HB := hide (show chB s = true from (hasB_iff chNs s).2 (by rw [e1]; simp [chNs]))
    rw [decide_eq_true e1] at f1
    clear e1 f2 f3 f4 f5 f6 f7
    go_enter Tryz.func159, Tryz.ntmps159
    go_wp2
    go_ret
    exact ⟨ret_bool HB.out.symm, Below.refl _ _⟩
  rw [decide_eq_false e1] at f1
  by_cases e2 : s = ⟨#[68, 69, 76, 69, 84, 69]⟩
  · have HB := hide (show chB s = true from (hasB_iff chNs s).2 (by rw [e2]; simp [chNs]))
    rw [decide_eq_true e2] at f2
    clear e2 f3 f4 f5 f6 f7
    go_enter Tryz.func159, Tryz.ntmps159
    go_wp2
    go_ret
    exact ⟨ret_bool HB.out.symm, Below.refl _ _⟩
  rw [decide_eq_false e2] at f2
  by_cases e3 : s = ⟨#[67, 79, 80, 89]⟩
  · have HB := hide (show chB s = true from (hasB_iff chNs s).2 (by rw [e3]; simp [chNs]))
    rw [decide_eq_true e3] at f3
    clear e3 f4 f5 f6 f7
    go_enter Tryz.func159, Tryz.ntmps159
    go_wp2
    go_ret
    exact ⟨ret_bool HB.out.symm, Below.refl _ _⟩
  rw [decide_eq_false e3] at f3
  by_cases e4 : s = ⟨#[77, 79, 86, 69]⟩
  · have HB := hide (show chB s = true from (hasB_iff chNs s).2 (by rw [e4]; simp [chNs]))
    rw [decide_eq_true e4] at f4
    clear e4 f5 f6 f7
    go_enter Tryz.func159, Tryz.ntmps159
    go_wp2
    go_ret
    exact ⟨ret_bool HB.out.symm, Below.refl _ _⟩
  rw [decide_eq_false e4] at f4
  by_cases e5 : s = ⟨#[80, 82, 79, 80, 80, 65, 84, 67, 72]⟩
  · have HB := hide (show chB s = true from (hasB_iff chNs s).2 (by rw [e5]; simp [chNs]))
    rw [decide_eq_true e5] at f5
    clear e5 f6 f7
    go_enter Tryz.func159, Tryz.ntmps159
    go_wp2
    go_ret
    exact ⟨ret_bool HB.out.symm, Below.refl _ _⟩
  rw [decide_eq_false e5] at f5
  by_cases e6 : s = ⟨#[76, 79, 67, 75]⟩
  · have HB := hide (show chB s = true from (hasB_iff chNs s).2 (by rw [e6]; simp [chNs]))
    rw [decide_eq_true e6] at f6
    clear e6 f7
    go_enter Tryz.func159, Tryz.ntmps159
    go_wp2
    go_ret
    exact ⟨ret_bool HB.out.symm, Below.refl _ _⟩
  rw [decide_eq_false e6] at f6
  by_cases e7 : s = ⟨#[85, 78, 76, 79, 67, 75]⟩
  · have HB := hide (show chB s = true from (hasB_iff chNs s).2 (by rw [e7]; simp [chNs]))
    rw [decide_eq_true e7] at f7
    clear e7
    go_enter Tryz.func159, Tryz.ntmps159
    go_wp2
    go_ret
    exact ⟨ret_bool HB.out.symm, Below.refl _ _⟩
  rw [decide_eq_false e7] at f7
  have HB := hide (show chB s = false from hasB_no (by simp only [chNs, List.mem_cons, List.not_mem_nil, or_false, not_or]; exact ⟨e0, e1, e2, e3, e4, e5, e6, e7⟩))
  clear e0 e1 e2 e3 e4 e5 e6 e7
  go_enter Tryz.func159, Tryz.ntmps159
  go_wp2
  go_ret
  exact ⟨ret_bool HB.out.symm, Below.refl _ _⟩

set_option maxHeartbeats 4000000 in
theorem specChanges_any (s : ByteArray) (w : World) : Calls Tryz.prog 49 #[.string s] w fun e w' => e = .returned (.bool (chB s)) ∧ Below w.heap.size w w' := by
  have b0 := (Below.refl w.heap.size w).alloc (Nat.le_refl _) (Obj.cells #[.string { data := #[80, 85, 84] }, .string { data := #[77, 75, 67, 79, 76] }, .string { data := #[68, 69, 76, 69, 84, 69] }, .string { data := #[67, 79, 80, 89] }, .string { data := #[77, 79, 86, 69] }, .string { data := #[80, 82, 79, 80, 80, 65, 84, 67, 72] }, .string { data := #[76, 79, 67, 75] }, .string { data := #[85, 78, 76, 79, 67, 75] }] 9)
  have bx := BoxV.made w [.string { data := #[80, 85, 84] }, .string { data := #[77, 75, 67, 79, 76] }, .string { data := #[68, 69, 76, 69, 84, 69] }, .string { data := #[67, 79, 80, 89] }, .string { data := #[77, 79, 86, 69] }, .string { data := #[80, 82, 79, 80, 80, 65, 84, 67, 72] }, .string { data := #[76, 79, 67, 75] }, .string { data := #[85, 78, 76, 79, 67, 75] }] 9
  have HQ := hide (l9Has_any w.heap.size 8 8 chNs s _ rfl (by decide) (fun j hj => (bx.2 j _ (by
    have hj : j < 8 := hj
    match j, hj with
    | 0, _ => rfl
    | 1, _ => rfl
    | 2, _ => rfl
    | 3, _ => rfl
    | 4, _ => rfl
    | 5, _ => rfl
    | 6, _ => rfl
    | 7, _ => rfl)).1))
  have HK := hide b0
  clear b0 bx
  go_enter Tryz.func49, Tryz.ntmps49
  go_wp2_with fail
  refine HQ.out.mono ?_
  rintro e w1 ⟨rfl, rfl⟩
  go_wp2
  go_ret
  exact ⟨rfl, HK.out⟩
end Go.Proofs.YtfhcniifennfbaaGreatDoor
namespace Go.Proofs.YtfhcniifennfbaaGreatDoor.M

/-- The byte of two digits. -/
def hx (a b : UInt8) : UInt8 := UInt8.ofNat (hexW a * 16 + hexW b)

theorem u8_37 {c : UInt8} (h : ((c.toNat : Int) == 37) = true) : c = 37 := by
  have h' : c.toNat = 37 := by simp at h; omega
  exact UInt8.toNat_inj.1 (by rw [h']; rfl)

/-- What these bytes are, unquoted. -/
def unq : List UInt8 → Option (List UInt8)
  | [] => some []
  | c :: r => if c = 37 then
      (match r with
       | a :: b :: q => if isHex a && isHex b then (unq q).map (hx a b :: ·) else none
       | _ => none)
    else (unq r).map (c :: ·)

/-- .. as the two answers. -/
def unqR (l : List UInt8) : List UInt8 × Bool := match unq l with | some x => (x, true) | none => ([], false)

theorem unq_plain {c : UInt8} (r : List UInt8) (h : ¬ c = 37) : unq (c :: r) = (unq r).map (c :: ·) := by
  rw [unq.eq_def]; simp only [h, if_false]
theorem unq_short {c : UInt8} (r : List UInt8) (h : c = 37) (hr : r.length < 2) : unq (c :: r) = none := by
  rw [unq.eq_def]; simp only [h, if_true]
  match r, hr with
  | [], _ => rfl
  | [_], _ => rfl
theorem unq_bad {c a b : UInt8} (q : List UInt8) (h : c = 37) (hb : (isHex a && isHex b) = false) : unq (c :: a :: b :: q) = none := by
  rw [unq.eq_def]; simp [h, hb]
theorem unq_hex {c a b : UInt8} (q : List UInt8) (h : c = 37) (ha : isHex a = true) (hb : isHex b = true) : unq (c :: a :: b :: q) = (unq q).map (hx a b :: ·) := by
  rw [unq.eq_def]; simp [h, ha, hb]

theorem drop_at (s : ByteArray) (k : Nat) (h : k < s.size) : s.data.toList.drop k = s[k] :: s.data.toList.drop (k + 1) := by
  have e : s.data.toList.length = s.size := Array.length_toList
  rw [List.drop_eq_getElem_cons (by omega)]
  rfl

theorem drop_end (s : ByteArray) (k : Nat) (h : ¬ k < s.size) : s.data.toList.drop k = [] := by
  have e : s.data.toList.length = s.size := Array.length_toList
  exact List.drop_of_length_le (by omega)

/-- What is read so far, and what is left: together all. -/
def UnqAt (s : ByteArray) (k : Nat) (acc : List UInt8) : Prop := k ≤ s.size ∧ acc.length ≤ k ∧ unq s.data.toList = (unq (s.data.toList.drop k)).map (acc ++ ·)

theorem UnqAt.start (s : ByteArray) : UnqAt s 0 [] := ⟨Nat.zero_le _, Nat.le_refl _, by simp⟩

theorem UnqAt.plain {s : ByteArray} {k : Nat} {acc : List UInt8} (h : UnqAt s k acc) (hk : k < s.size) (hc : ¬ s[k] = 37) : UnqAt s (k + 1) (acc ++ [s[k]]) := by
  obtain ⟨h1, h2, h3⟩ := h
  refine ⟨by omega, by simp; omega, ?_⟩
  rw [h3, drop_at s k hk, unq_plain _ hc, Option.map_map]
  congr 1
  funext x
  simp [Function.comp]

theorem UnqAt.hex {s : ByteArray} {k : Nat} {acc : List UInt8} (h : UnqAt s k acc) (hk : k + 2 < s.size) (hc : s[k] = 37) (ha : isHex s[k + 1] = true) (hb : isHex s[k + 2] = true) : UnqAt s (k + 3) (acc ++ [hx s[k + 1] s[k + 2]]) := by
  obtain ⟨h1, h2, h3⟩ := h
  refine ⟨by omega, by simp; omega, ?_⟩
  rw [h3, drop_at s k (by omega), drop_at s (k + 1) (by omega), drop_at s (k + 2) (by omega), unq_hex _ hc ha hb, Option.map_map]
  congr 1
  funext x
  simp [Function.comp]

theorem UnqAt.short {s : ByteArray} {k : Nat} {acc : List UInt8} (h : UnqAt s k acc) (hk : k < s.size) (hc : s[k] = 37) (hl : s.size ≤ k + 2) : unqR s.data.toList = ([], false) := by
  obtain ⟨h1, h2, h3⟩ := h
  have e : s.data.toList.length = s.size := Array.length_toList
  unfold unqR
  rw [h3, drop_at s k hk, unq_short _ hc (by rw [List.length_drop]; omega)]
  rfl

theorem UnqAt.bad {s : ByteArray} {k : Nat} {acc : List UInt8} (h : UnqAt s k acc) (hk : k + 2 < s.size) (hc : s[k] = 37) (hb : (isHex s[k + 1] && isHex s[k + 2]) = false) : unqR s.data.toList = ([], false) := by
  obtain ⟨h1, h2, h3⟩ := h
  unfold unqR
  rw [h3, drop_at s k (by omega), drop_at s (k + 1) (by omega), drop_at s (k + 2) (by omega), unq_bad _ hc hb]
  rfl

theorem UnqAt.done {s : ByteArray} {k : Nat} {acc : List UInt8} (h : UnqAt s k acc) (hk : ¬ k < s.size) : unqR s.data.toList = (acc, true) := by
  obtain ⟨h1, h2, h3⟩ := h
  unfold unqR
  rw [h3, drop_end s k hk]
  simp [unq]

theorem hx_nat {a b : UInt8} (ha : isHex a = true) (hb : isHex b = true) : ((hx a b).toNat : Int) = (hexW a : Int) * 16 + hexW b := by
  have h1 := hexW_lt ha
  have h2 := hexW_lt hb
  unfold hx
  rw [UInt8.toNat_ofNat']
  omega

theorem extract_two (s : ByteArray) (k : Nat) (h : k + 2 < s.size) : (s.extract (k + 1) (k + 3)).data.toList = [s[k + 1], s[k + 2]] := by
  have e : s.data.toList.length = s.size := Array.length_toList
  have h1 : (s.extract (k + 1) (k + 3)).data = s.data.extract (k + 1) (k + 3) := by simp
  rw [h1, Array.toList_extract]
  show (s.data.toList.drop (k + 1)).take (k + 3 - (k + 1)) = _
  rw [drop_at s (k + 1) (by omega), drop_at s (k + 2) (by omega), show k + 3 - (k + 1) = 2 by omega]
  rfl

theorem parseHex_two (a b : UInt8) : parseHex [a, b] = if (isHex a && isHex b) then ((hexW a : Int) * 16 + hexW b, true) else (0, false) := by
  have hh : hexs [a, b] = (isHex a && isHex b) := by simp [hexs, allB, isHex]
  unfold parseHex hexB
  rw [hh]
  cases h : (isHex a && isHex b)
  · simp
  · simp [hexVal]
end Go.Proofs.YtfhcniifennfbaaGreatDoor.M
namespace Go.Proofs.YtfhcniifennfbaaGreatDoor.M

/-- A text, cut at every slash. -/
def cuts : List UInt8 → List (List UInt8)
  | [] => [[]]
  | c :: r => if c = 47 then [] :: cuts r else (match cuts r with | [] => [[c]] | x :: q => (c :: x) :: q)

theorem cuts_ne (l : List UInt8) : cuts l ≠ [] := by
  cases l with
  | nil => simp [cuts]
  | cons c r =>
    unfold cuts
    split
    · simp
    · split <;> simp

theorem cuts_none (a : List UInt8) (h : 47 ∉ a) : cuts a = [a] := by
  induction a with
  | nil => rfl
  | cons c r ih =>
    have h1 : ¬ c = 47 := fun e => h (by simp [e])
    have h2 : 47 ∉ r := fun e => h (List.mem_cons_of_mem _ e)
    unfold cuts
    rw [if_neg h1, ih h2]

theorem cuts_app (a r : List UInt8) (h : 47 ∉ a) : cuts (a ++ 47 :: r) = a :: cuts r := by
  induction a with
  | nil => simp [cuts]
  | cons c q ih =>
    have h1 : ¬ c = 47 := fun e => h (by simp [e])
    have h2 : 47 ∉ q := fun e => h (List.mem_cons_of_mem _ e)
    rw [List.cons_append, cuts, if_neg h1, ih h2]

theorem indexByte_cases (l : List UInt8) (c : UInt8) : (Lib.indexByte l c = -1 ∧ c ∉ l) ∨ ∃ a r, l = a ++ c :: r ∧ c ∉ a ∧ Lib.indexByte l c = a.length := by
  induction l with
  | nil => left; exact ⟨rfl, by simp⟩
  | cons b l ih =>
    by_cases hb : b = c
    · right
      refine ⟨[], l, by simp [hb], by simp, ?_⟩
      unfold Lib.indexByte; simp [hb]
    · rcases ih with ⟨h1, h2⟩ | ⟨a, r, rfl, h2, h3⟩
      · left
        refine ⟨?_, by simp [h2, Ne.symm hb]⟩
        unfold Lib.indexByte; simp [hb, h1]
      · right
        refine ⟨b :: a, r, rfl, by simp [h2, Ne.symm hb], ?_⟩
        unfold Lib.indexByte
        rw [h3]
        have : ¬ ((a.length : Int) = -1) := by omega
        simp [hb, this]

theorem splitK_cuts : ∀ (n : Nat) (l : List UInt8), l.length ≤ n → Lib.splitK [47] 0 (l.count 47) l = cuts l := by
  intro n
  induction n with
  | zero =>
    intro l hl
    have : l = [] := List.length_eq_zero_iff.1 (by omega)
    subst this; rfl
  | succ n ih =>
    intro l hl
    rcases indexByte_cases l 47 with ⟨_, h2⟩ | ⟨a, r, rfl, h2, h3⟩
    · rw [List.count_eq_zero.2 h2, cuts_none l h2]; rfl
    · have hc : (a ++ 47 :: r).count 47 = r.count 47 + 1 := by
        rw [List.count_append, List.count_eq_zero.2 h2, List.count_cons]; simp
      have hi : Lib.index (a ++ 47 :: r) [47] = (a.length : Int) := by rw [Lib.index_one, h3]
      have hne : ¬ ((a.length : Int) == -1) = true := fun e => by have := beq_iff_eq.1 e; omega
      rw [hc, cuts_app a r h2, Lib.splitK, hi, if_neg hne]
      have e1 : (a ++ 47 :: r).take ((a.length : Int).toNat + 0) = a := by simp
      have e2 : (a ++ 47 :: r).drop ((a.length : Int).toNat + [(47 : UInt8)].length) = r := by
        have : ((a.length : Int).toNat + [(47 : UInt8)].length) = a.length + 1 := by simp
        rw [this, ← List.drop_drop, List.drop_left]; rfl
      rw [e1, e2, ih r (by simp at hl; omega)]

/-- The pieces of a text, as texts. -/
def piecesL (l : List UInt8) : List ByteArray := (cuts l).map bytesOf

theorem split_pieces (s : ByteArray) : Lib.splitB ⟨#[47]⟩ 0 (s.data.toList.count 47) s = piecesL s.data.toList := by
  have h := Lib.splitB_data ⟨#[47]⟩ 0 (s.data.toList.count 47) s
  have h' : (Lib.splitB ⟨#[47]⟩ 0 (s.data.toList.count 47) s).map (·.data.toList) = cuts s.data.toList := h.trans (splitK_cuts _ _ (Nat.le_refl _))
  unfold piecesL
  rw [← h', List.map_map]
  have e : (bytesOf ∘ fun x : ByteArray => x.data.toList) = id := by funext x; simp [bytesOf]
  rw [e, List.map_id]

theorem cuts_length (l : List UInt8) : (cuts l).length = l.count 47 + 1 := by
  induction l with
  | nil => rfl
  | cons c r ih =>
    unfold cuts
    by_cases h : c = 47
    · simp [h, ih]
    · rw [if_neg h]
      have h1 : (c :: r).count 47 = r.count 47 := by rw [List.count_cons]; simp [h]
      rw [h1, ← ih]
      have := cuts_ne r
      cases hc : cuts r with
      | nil => exact absurd hc this
      | cons x q => rfl

theorem cuts_le (l : List UInt8) : ∀ x ∈ cuts l, x.length ≤ l.length := by
  induction l with
  | nil => intro x hx; simp [cuts] at hx; simp [hx]
  | cons c r ih =>
    intro x hx
    unfold cuts at hx
    by_cases h : c = 47
    · rw [if_pos h] at hx
      rcases List.mem_cons.1 hx with rfl | hx
      · simp
      · have := ih x hx; simp; omega
    · rw [if_neg h] at hx
      cases hc : cuts r with
      | nil => exact absurd hc (cuts_ne r)
      | cons y q =>
        rw [hc] at hx
        rcases List.mem_cons.1 hx with rfl | hx
        · have := ih y (by rw [hc]; simp); simp; omega
        · have := ih x (by rw [hc]; exact List.mem_cons_of_mem _ hx); simp; omega

theorem piecesL_short (l : List UInt8) (s : ByteArray) (h : s ∈ piecesL l) : s.size ≤ l.length := by
  unfold piecesL at h
  obtain ⟨x, hx, rfl⟩ := List.mem_map.1 h
  rw [bytesOf_size]; exact cuts_le l x hx
theorem piecesL_length (l : List UInt8) : (piecesL l).length = l.count 47 + 1 := by
  unfold piecesL; rw [List.length_map, cuts_length]

/-! What is walked of the pieces. -/

theorem unq_le : ∀ (n : Nat) (l x : List UInt8), l.length ≤ n → unq l = some x → x.length ≤ l.length := by
  intro n
  induction n with
  | zero =>
    intro l x hl h
    have : l = [] := List.length_eq_zero_iff.1 (by omega)
    subst this
    simp [unq] at h; simp [h]
  | succ n ih =>
    intro l x hl h
    cases l with
    | nil => simp [unq] at h; simp [h]
    | cons c r =>
      by_cases hc : c = 37
      · match r, hl, h with
        | [], _, h => rw [unq_short _ hc (by simp)] at h; cases h
        | [_], _, h => rw [unq_short _ hc (by simp)] at h; cases h
        | a :: b :: q, hl, h =>
          cases hh : (isHex a && isHex b)
          · rw [unq_bad _ hc hh] at h; cases h
          · rw [Bool.and_eq_true] at hh
            rw [unq_hex _ hc hh.1 hh.2] at h
            obtain ⟨y, hy, rfl⟩ := Option.map_eq_some_iff.1 h
            have := ih q y (by simp at hl; omega) hy
            simp; omega
      · rw [unq_plain _ hc] at h
        obtain ⟨y, hy, rfl⟩ := Option.map_eq_some_iff.1 h
        have := ih r y (by simp at hl; omega) hy
        simp; omega

theorem unqR_le (l : List UInt8) : (unqR l).1.length ≤ l.length := by
  unfold unqR
  cases h : unq l with
  | none => simp
  | some x => exact unq_le _ l x (Nat.le_refl _) h

theorem unqR_nil : unqR [] = ([], true) := rfl

theorem unqR_empty {l : List UInt8} (h : (unqR l).2 = true) (h1 : (unqR l).1 = []) : l = [] := by
  cases l with
  | nil => rfl
  | cons c r =>
    exfalso
    unfold unqR at h h1
    by_cases hc : c = 37
    · match r, h, h1 with
      | [], h, _ => rw [unq_short _ hc (by simp)] at h; cases h
      | [_], h, _ => rw [unq_short _ hc (by simp)] at h; cases h
      | a :: b :: q, h, h1 =>
        cases hh : (isHex a && isHex b)
        · rw [unq_bad _ hc hh] at h; cases h
        · rw [Bool.and_eq_true] at hh
          rw [unq_hex _ hc hh.1 hh.2] at h h1
          cases hq : unq q with
          | none => rw [hq] at h; cases h
          | some y => rw [hq] at h1; simp at h1
    · rw [unq_plain _ hc] at h h1
      cases hq : unq r with
      | none => rw [hq] at h; cases h
      | some y => rw [hq] at h1; simp at h1

/-- One piece more: taken up, passed by, or one taken away; none where it cannot be. -/
def stepP (out : List ByteArray) (p : ByteArray) : Option (List ByteArray) :=
  if (unqR p.data.toList).2 = false ∨ (unqR p.data.toList).1 = [] then none
  else if (unqR p.data.toList).1 = [46] then some out
  else if (unqR p.data.toList).1 = [46, 46] then (if out = [] then none else some out.dropLast)
  else some (out ++ [bytesOf (unqR p.data.toList).1])
def foldP : List ByteArray → List ByteArray → Option (List ByteArray)
  | out, [] => some out
  | out, p :: r => (stepP out p).bind fun o => foldP o r

theorem foldP_at {ps : List ByteArray} (k : Nat) (h : k < ps.length) (out : List ByteArray) : foldP out (ps.drop k) = (stepP out ps[k]).bind fun o => foldP o (ps.drop (k + 1)) := by
  rw [List.drop_eq_getElem_cons h]; rfl

/-- The last piece goes where it is empty. -/
def strip (ps : List ByteArray) : List ByteArray := if ps.getLast? = some (bytesOf []) then ps.dropLast else ps

/-- What ParsePath tells, as the document has it. -/
def parseP (l : List UInt8) : List ByteArray × Bool :=
  if l.head? = some 47 then
    (match foldP [] (strip (piecesL (l.drop 1))) with
     | some ns => if pathB ns then (ns, true) else ([], false)
     | none => ([], false))
  else ([], false)

theorem parseP_head {l : List UInt8} (h : ¬ l.head? = some 47) : parseP l = ([], false) := by unfold parseP; rw [if_neg h]
theorem parseP_none {l : List UInt8} (h : l.head? = some 47) (hf : foldP [] (strip (piecesL (l.drop 1))) = none) : parseP l = ([], false) := by unfold parseP; rw [if_pos h, hf]
theorem parseP_not {l : List UInt8} {ns : List ByteArray} (h : l.head? = some 47) (hf : foldP [] (strip (piecesL (l.drop 1))) = some ns) (hp : pathB ns = false) : parseP l = ([], false) := by unfold parseP; rw [if_pos h, hf]; simp [hp]
theorem parseP_yes {l : List UInt8} {ns : List ByteArray} (h : l.head? = some 47) (hf : foldP [] (strip (piecesL (l.drop 1))) = some ns) (hp : pathB ns = true) : parseP l = (ns, true) := by unfold parseP; rw [if_pos h, hf]; simp [hp]

theorem stepP_none {out : List ByteArray} {p : ByteArray} (h : (unqR p.data.toList).2 = false ∨ (unqR p.data.toList).1 = []) : stepP out p = none := by unfold stepP; rw [if_pos h]
theorem stepP_dot {out : List ByteArray} {p : ByteArray} (h : (unqR p.data.toList).2 = true) (h1 : (unqR p.data.toList).1 = [46]) : stepP out p = some out := by unfold stepP; rw [if_neg (by simp [h, h1]), if_pos h1]
theorem stepP_up0 {p : ByteArray} (h : (unqR p.data.toList).2 = true) (h1 : (unqR p.data.toList).1 = [46, 46]) : stepP [] p = none := by unfold stepP; rw [if_neg (by simp [h, h1]), if_neg (by simp [h1]), if_pos h1, if_pos rfl]
theorem stepP_up {out : List ByteArray} {p : ByteArray} (h : (unqR p.data.toList).2 = true) (h1 : (unqR p.data.toList).1 = [46, 46]) (ho : out ≠ []) : stepP out p = some out.dropLast := by unfold stepP; rw [if_neg (by simp [h, h1]), if_neg (by simp [h1]), if_pos h1, if_neg ho]
theorem stepP_push {out : List ByteArray} {p : ByteArray} (h : (unqR p.data.toList).2 = true) (h0 : ¬ (unqR p.data.toList).1 = []) (h1 : ¬ (unqR p.data.toList).1 = [46]) (h2 : ¬ (unqR p.data.toList).1 = [46, 46]) : stepP out p = some (out ++ [bytesOf (unqR p.data.toList).1]) := by unfold stepP; rw [if_neg (by simp [h, h0]), if_neg h1, if_neg h2]
end Go.Proofs.YtfhcniifennfbaaGreatDoor.M
namespace Go.Proofs.YtfhcniifennfbaaGreatDoor.M

theorem digL_hex : ∀ n : Fin 16, isHex (digL n.val) = true ∧ hexW (digL n.val) = n.val := by decide

theorem free_not37 : freeB 37 = false := by decide

theorem hx_back (c : UInt8) : hx (digL (c.toNat / 16)) (digL (c.toNat % 16)) = c := by
  have h := c.toNat_lt
  have h1 := (digL_hex ⟨c.toNat / 16, by omega⟩).2
  have h2 := (digL_hex ⟨c.toNat % 16, by omega⟩).2
  simp only at h1 h2
  unfold hx
  rw [h1, h2]
  have e : c.toNat / 16 * 16 + c.toNat % 16 = c.toNat := by omega
  rw [e]
  exact UInt8.ofNat_toNat

theorem unq_quote (l : List UInt8) : unq (quoteL l) = some l := by
  induction l with
  | nil => rfl
  | cons c r ih =>
    have e : quoteL (c :: r) = quoteB c ++ quoteL r := by simp [quoteL]
    rw [e]
    cases hf : freeB (c.toNat : Int)
    · rw [quoteB_no hf]
      have h := c.toNat_lt
      have h1 := (digL_hex ⟨c.toNat / 16, by omega⟩).1
      have h2 := (digL_hex ⟨c.toNat % 16, by omega⟩).1
      show unq (37 :: digL (c.toNat / 16) :: digL (c.toNat % 16) :: quoteL r) = _
      rw [unq_hex _ rfl h1 h2, ih, hx_back]
      rfl
    · rw [quoteB_yes hf]
      have hc : ¬ c = 37 := fun e => by rw [e] at hf; exact absurd hf (by decide)
      show unq (c :: quoteL r) = _
      rw [unq_plain _ hc, ih]
      rfl

theorem unqR_quote (l : List UInt8) : unqR (quoteL l) = (l, true) := by unfold unqR; rw [unq_quote]

theorem digL_plain : ∀ n : Fin 16, anyB ((digL n.val).toNat : Int) [0] = true := by decide

theorem free_plain {c : Int} (h : freeB c = true) : anyB c [0] = true := by
  simp only [freeB, isB, anyB, List.any_cons, List.any_nil] at h ⊢
  simp at h ⊢
  omega

theorem quote_plain (l : List UInt8) : allB (quoteL l) [0] = true := by
  induction l with
  | nil => rfl
  | cons c r ih =>
    have e : quoteL (c :: r) = quoteB c ++ quoteL r := by simp [quoteL]
    rw [e]
    unfold allB at ih ⊢
    rw [List.all_append, ih, Bool.and_true]
    cases hf : freeB (c.toNat : Int)
    · rw [quoteB_no hf]
      have h := c.toNat_lt
      have h1 := digL_plain ⟨c.toNat / 16, by omega⟩
      have h2 := digL_plain ⟨c.toNat % 16, by omega⟩
      simp only at h1 h2
      simp only [List.all_cons, List.all_nil, h1, h2, Bool.and_true]
      decide
    · rw [quoteB_yes hf]
      simp only [List.all_cons, List.all_nil, free_plain hf, Bool.and_true]
end Go.Proofs.YtfhcniifennfbaaGreatDoor.M
namespace Go.Proofs.YtfhcniifennfbaaGreatDoor.M

theorem digL_not47 : ∀ n : Fin 16, ¬ digL n.val = 47 := by decide

theorem quote_no47 (l : List UInt8) : 47 ∉ quoteL l := by
  induction l with
  | nil => simp [quoteL]
  | cons c r ih =>
    have e : quoteL (c :: r) = quoteB c ++ quoteL r := by simp [quoteL]
    rw [e, List.mem_append]
    rintro (h | h)
    · cases hf : freeB (c.toNat : Int)
      · rw [quoteB_no hf] at h
        have hc := c.toNat_lt
        have h1 := digL_not47 ⟨c.toNat / 16, by omega⟩
        have h2 := digL_not47 ⟨c.toNat % 16, by omega⟩
        simp only at h1 h2
        simp only [List.mem_cons, List.not_mem_nil, or_false] at h
        rcases h with h | h | h
        · exact absurd h (by decide)
        · exact h1 h.symm
        · exact h2 h.symm
      · rw [quoteB_yes hf] at h
        simp only [List.mem_cons, List.not_mem_nil, or_false] at h
        rw [← h] at hf
        exact absurd hf (by decide)
    · exact ih h

theorem tellL_cons (s : ByteArray) (r : List ByteArray) : tellL (s :: r) = 47 :: (quoteL s.data.toList ++ tellL r) := by
  simp [tellL]

theorem cuts_tell (r : List ByteArray) : ∀ s : ByteArray, cuts (quoteL s.data.toList ++ tellL r) = quoteL s.data.toList :: r.map fun t => quoteL t.data.toList := by
  induction r with
  | nil => intro s; simp only [tellL, List.flatMap_nil, List.append_nil, List.map_nil]; exact cuts_none _ (quote_no47 _)
  | cons t r ih =>
    intro s
    rw [tellL_cons, cuts_app _ _ (quote_no47 _), ih t, List.map_cons]

theorem pieces_tell (s : ByteArray) (r : List ByteArray) : piecesL (quoteL s.data.toList ++ tellL r) = (s :: r).map qB := by
  unfold piecesL
  rw [cuts_tell, List.map_cons, List.map_map]
  rfl

theorem quote_ne {l : List UInt8} (h : l ≠ []) : quoteL l ≠ [] := by
  intro e
  have := unq_quote l
  rw [e] at this
  simp [unq] at this
  exact h this

theorem nameB_ne {s : ByteArray} (h : nameB s = true) : s.data.toList ≠ [] ∧ ¬ s.data.toList = [46] ∧ ¬ s.data.toList = [46, 46] := by
  unfold nameB at h
  simp only [Bool.and_eq_true, inB, decide_eq_true_eq, Bool.not_eq_true', beq_eq_false_iff_ne, ByteArray.toList_eq] at h
  obtain ⟨_, ⟨h1, _⟩, _, h2, h3⟩ := h
  refine ⟨fun e => ?_, h2, h3⟩
  have e2 : s.data.toList.length = s.size := Array.length_toList
  rw [e] at e2
  simp at e2
  omega

theorem bytesOf_back (s : ByteArray) : bytesOf s.data.toList = s := by
  apply ByteArray.ext
  simp [bytesOf]

theorem step_q {s : ByteArray} (h : nameB s = true) (out : List ByteArray) : stepP out (qB s) = some (out ++ [s]) := by
  have e : unqR (qB s).data.toList = (s.data.toList, true) := unqR_quote _
  obtain ⟨h0, h1, h2⟩ := nameB_ne h
  rw [stepP_push (by rw [e]) (by rw [e]; exact h0) (by rw [e]; exact h1) (by rw [e]; exact h2), e, bytesOf_back]

theorem fold_q (ss : List ByteArray) : ∀ out : List ByteArray, (∀ s ∈ ss, nameB s = true) → foldP out (ss.map qB) = some (out ++ ss) := by
  induction ss with
  | nil => intro out _; simp [foldP]
  | cons s r ih =>
    intro out h
    rw [List.map_cons, foldP, step_q (h s (by simp)), Option.bind_some, ih _ (fun t ht => h t (List.mem_cons_of_mem _ ht)), List.append_assoc]
    rfl

theorem strip_q {ss : List ByteArray} (h : ∀ s ∈ ss, nameB s = true) : strip (ss.map qB) = ss.map qB := by
  unfold strip
  rw [if_neg]
  intro e
  have hm : bytesOf [] ∈ ss.map qB := List.mem_of_getLast? e
  obtain ⟨s, hs, he⟩ := List.mem_map.1 hm
  have h1 := congrArg (fun x : ByteArray => x.data.toList) he
  exact quote_ne (nameB_ne (h s hs)).1 h1

theorem pathB_all {ss : List ByteArray} (h : pathB ss = true) : ∀ s ∈ ss, nameB s = true := by
  unfold pathB at h
  simp only [Bool.and_eq_true, List.all_eq_true] at h
  exact h.1

/-- A path comes back of its text. -/
theorem parseP_text {ss : List ByteArray} (h : pathB ss = true) : parseP (ptextL ss) = (ss, true) := by
  cases ss with
  | nil => rw [ptextL_nil]; decide
  | cons s r =>
    rw [ptextL_some h (by simp), tellL_cons]
    have ha := pathB_all h
    refine parseP_yes rfl ?_ h
    show foldP [] (strip (piecesL (quoteL s.data.toList ++ tellL r))) = some (s :: r)
    rw [pieces_tell, strip_q ha, fold_q _ _ ha]
    rfl

/-- What is read is a path. -/
theorem parseP_path {l : List UInt8} (h : (parseP l).2 = true) : pathB (parseP l).1 = true := by
  unfold parseP at h ⊢
  split
  · rename_i hh
    rw [if_pos hh] at h
    split
    · rename_i ns hns
      rw [hns] at h
      by_cases hp : pathB ns = true
      · simp [hp]
      · simp [hp] at h
    · rename_i hns
      rw [hns] at h
      exact absurd h (by decide)
  · rename_i hh
    rw [if_neg hh] at h
    exact absurd h (by decide)

theorem ptextL_len {ss : List ByteArray} : (ptextL ss).length ≤ 100 := by
  cases hp : pathB ss
  · rw [ptextL_not hp]; simp
  · by_cases h0 : ss = []
    · subst h0; rw [ptextL_nil]; simp
    · rw [ptextL_some hp h0]
      have h1 := tellL_le hp ss.length (Nat.le_refl _)
      rw [List.take_length] at h1
      have := pathB_len hp
      omega
end Go.Proofs.YtfhcniifennfbaaGreatDoor.M
namespace Go.Proofs.YtfhcniifennfbaaGreatDoor
open Go.RowKit M
set_option linter.unusedVariables false

def farB (m : ByteArray) : Bool := decide (m = mCOPY) || decide (m = mMOVE)
def knownB (m : ByteArray) : Bool := chB m || (decide (m = mGET) || (decide (m = mHEAD) || (decide (m = mOPTIONS) || decide (m = mPROPFIND))))
def pthV (r : Rq) : List ByteArray × Bool := parseP r.p.data.toList
def ifV (r : Rq) : ByteArray × Bool := hdOf r.hs ifN
def dstV (r : Rq) : List ByteArray × Bool := parseP (hdOf r.hs destN).1.data.toList
def ifOkB (r : Rq) : Bool := (ifL (ifV r).1.data.toList).isSome
/-- Whether the depth is right. -/
def depOkB (m : ByteArray) (d : Int) : Bool := if d = 0 then !decide (m = mMOVE) && !decide (m = mDELETE) else if d = 1 then decide (m = mPROPFIND) else decide (d = 2)
/-- A code where something is so. -/
def cwI (so : Bool) (c : Int) : Int := if so = true then c else 0
/-- The first that is none of 0. -/
def firstI : List Int → Int
  | [] => 0
  | c :: r => if c = 0 then firstI r else c
theorem firstI_app (l m : List Int) : firstI (l ++ m) = if firstI l = 0 then firstI m else firstI l := by
  induction l with
  | nil => simp [firstI]
  | cons c r ih =>
    rw [List.cons_append, firstI, firstI, ih]
    by_cases h : c = 0
    · simp [h]
    · simp [h]
theorem firstI_zero {l : List Int} (h : ∀ j (hj : j < l.length), l[j] = 0) : firstI l = 0 := by
  induction l with
  | nil => rfl
  | cons c r ih =>
    have h0 := h 0 (by simp)
    rw [List.getElem_cons_zero] at h0
    rw [firstI, if_pos h0]
    exact ih (fun j hj => by have := h (j + 1) (by simp; omega); simpa using this)
theorem firstI_at {l : List Int} {k : Nat} (hk : k < l.length) (h : ∀ j (hj : j < l.length), j < k → l[j] = 0) (hc : ¬ l[k] = 0) : firstI l = l[k] := by
  induction l generalizing k with
  | nil => cases hk
  | cons c r ih =>
    match k with
    | 0 => rw [List.getElem_cons_zero] at hc ⊢; rw [firstI, if_neg hc]
    | k + 1 =>
      have h0 := h 0 (by simp) (by omega)
      rw [List.getElem_cons_zero] at h0
      rw [firstI, if_pos h0]
      rw [List.getElem_cons_succ] at hc ⊢
      exact ih (by simpa using hk) (fun j hj hjk => by have := h (j + 1) (by simp; omega) (by omega); simpa using this) hc
def cPath (r : Rq) : Int := cwI (!(pthV r).2) 400
def cMeth (r : Rq) : Int := cwI (!knownB r.m) 501
def cTo (r : Rq) : Int := cwI (farB r.m && !(dstV r).2) 400
def cDep (r : Rq) : Int := cwI (!depOkB r.m (depI r.hs 2)) 400
def cIfF (r : Rq) : Int := cwI ((ifV r).2 && !ifOkB r) 400
def cIf (x : Sv) (r : Rq) (p : List ByteArray) : Int := cwI ((ifV r).2 && !evalI (ifLs (ifV r).1) (tokL x.l p) (tagAtT x p)) 412
def cMat (x : Sv) (r : Rq) (p : List ByteArray) : Int := cwI ((hdOf r.hs matchN).2 && !(tagAtB x p && namB (hdOf r.hs matchN).1.data.toList (tagAtT x p))) 412
def cNon (x : Sv) (r : Rq) (p : List ByteArray) : Int := cwI ((hdOf r.hs noneN).2 && !(!tagAtB x p || !namB (hdOf r.hs noneN).1.data.toList (tagAtT x p))) (if (decide (r.m = mGET) || decide (r.m = mHEAD)) = true then 304 else 412)
def cLck (x : Sv) (r : Rq) (pa tl : List ByteArray) (tk : List Int) : Int := cwI (!chgB x r.m pa tl tk) 423
/-- The code of what is not of the form; 0: all is. -/
def formI (r : Rq) : Int := firstI [cPath r, cMeth r, cTo r, cDep r, cIfF r]
/-- The code of the heads that tell when; 0: go on. -/
def whenI (x : Sv) (r : Rq) (p : List ByteArray) : Int := firstI [cIf x r p, cMat x r p, cNon x r p]
def toL (r : Rq) : List ByteArray := if ((pthV r).2 && farB r.m) = true then (dstV r).1 else []
/-- The tokens that are told, where there is a head. -/
def tkL (r : Rq) : List Int := subI (ifLs (ifV r).1)
def codesI (x : Sv) (r : Rq) : List Int := [cPath r, cMeth r, cTo r, cDep r, cIfF r, cIf x r (pthV r).1, cMat x r (pthV r).1, cNon x r (pthV r).1, cLck x r (pthV r).1 (toL r) (tkL r)]
def codeI (x : Sv) (r : Rq) : Int := firstI (codesI x r)
theorem codeI_is (x : Sv) (r : Rq) : codeI x r = if formI r = 0 then (if whenI x r (pthV r).1 = 0 then cLck x r (pthV r).1 (toL r) (tkL r) else whenI x r (pthV r).1) else formI r := by
  have e : codesI x r = [cPath r, cMeth r, cTo r, cDep r, cIfF r] ++ ([cIf x r (pthV r).1, cMat x r (pthV r).1, cNon x r (pthV r).1] ++ [cLck x r (pthV r).1 (toL r) (tkL r)]) := rfl
  unfold codeI
  rw [e, firstI_app, firstI_app]
  have e2 : ∀ c, firstI [c] = c := fun c => by
    show (if c = 0 then (0 : Int) else c) = c
    split
    · rename_i h; exact h.symm
    · rfl
  rw [e2]
  rfl
theorem cw_cases (b : Bool) (c : Int) : cwI b c = 0 ∨ cwI b c = c := by cases b <;> simp [cwI]
theorem firstI_in {l : List Int} (h : ¬ firstI l = 0) : firstI l ∈ l := by
  induction l with
  | nil => exact absurd rfl h
  | cons c r ih =>
    rw [firstI] at h ⊢
    by_cases hc : c = 0
    · rw [if_pos hc] at h ⊢
      exact List.mem_cons_of_mem _ (ih h)
    · rw [if_neg hc]
      exact List.mem_cons_self ..
theorem form_codes (r : Rq) : formI r = 0 ∨ formI r = 400 ∨ formI r = 501 := by
  by_cases h : formI r = 0
  · exact .inl h
  · have h2 := firstI_in h
    change formI r ∈ _ at h2
    simp only [List.mem_cons, List.not_mem_nil, or_false] at h2
    rcases h2 with e | e | e | e | e <;> rw [e] at h ⊢
    · exact .inr (.inl ((cw_cases _ _).resolve_left h))
    · exact .inr (.inr ((cw_cases _ _).resolve_left h))
    · exact .inr (.inl ((cw_cases _ _).resolve_left h))
    · exact .inr (.inl ((cw_cases _ _).resolve_left h))
    · exact .inr (.inl ((cw_cases _ _).resolve_left h))
theorem when_codes (x : Sv) (r : Rq) (p : List ByteArray) : whenI x r p = 0 ∨ whenI x r p = 412 ∨ whenI x r p = 304 := by
  by_cases h : whenI x r p = 0
  · exact .inl h
  · have h2 := firstI_in h
    change whenI x r p ∈ _ at h2
    simp only [List.mem_cons, List.not_mem_nil, or_false] at h2
    rcases h2 with e | e | e <;> rw [e] at h ⊢
    · exact .inr (.inl ((cw_cases _ _).resolve_left h))
    · exact .inr (.inl ((cw_cases _ _).resolve_left h))
    · have h3 := (cw_cases _ _).resolve_left h
      unfold cNon
      rw [h3]
      split
      · exact .inr (.inr rfl)
      · exact .inr (.inl rfl)
/-- The code tells whether the form was right. -/
theorem code_form (x : Sv) (r : Rq) : (codeI x r = 400 ∨ codeI x r = 501) ↔ ¬ formI r = 0 := by
  rw [codeI_is]
  by_cases h : formI r = 0
  · rw [if_pos h]
    refine ⟨fun e => ?_, fun e => absurd h e⟩
    exfalso
    by_cases h2 : whenI x r (pthV r).1 = 0
    · rw [if_pos h2] at e
      have h3 := cw_cases (!chgB x r.m (pthV r).1 (toL r) (tkL r)) 423
      unfold cLck at e
      omega
    · rw [if_neg h2] at e
      have := when_codes x r (pthV r).1
      omega
  · rw [if_neg h]
    have := form_codes r
    exact ⟨fun _ => h, fun _ => by omega⟩
def askL (x : Sv) (r : Rq) : Ak := ⟨(pthV r).1, toL r, decide (depI r.hs 2 = 2), !decide ((hdOf r.hs overN).1 = tF), if formI r = 0 then tkL r else [], codeI x r⟩
theorem hdOf_no {hs : List Hd} {n : ByteArray} (h : (hdOf hs n).2 = false) : (hdOf hs n).1 = ByteArray.empty := by
  induction hs with
  | nil => rfl
  | cons a r ih =>
    rw [hdOf] at h ⊢
    split at h
    · cases h
    · rename_i hne
      rw [if_neg hne]
      exact ih h
theorem tk_none {r : Rq} (h : (ifV r).2 = false) : tkL r = [] := by
  unfold tkL
  rw [show (ifV r).1 = ByteArray.empty from hdOf_no h]
  have : ifL ([] : List UInt8) = none := by
    unfold ifL
    have : listsL [] = none := listsL_none (by unfold listL; rw [if_neg (by simp)])
    rw [this]; rfl
  unfold ifLs
  rw [show (ByteArray.empty : ByteArray).data.toList = [] from rfl, this]
  rfl

theorem far_known {m : ByteArray} (h : farB m = true) : knownB m = true := by
  unfold farB at h
  rw [Bool.or_eq_true] at h
  unfold knownB
  rcases h with h | h
  · have e := of_decide_eq_true h
    rw [e]
    have : chB mCOPY = true := by decide
    rw [this]; rfl
  · have e := of_decide_eq_true h
    rw [e]
    have : chB mMOVE = true := by decide
    rw [this]; rfl
theorem if_small (s : ByteArray) : szRs ((ifLs s).map dCs) ≤ 1048576 := by
  unfold ifLs
  cases h : ifL s.data.toList with
  | none => decide
  | some ls =>
    have hok := ifL_ok h
    refine Nat.le_trans (sz_few (m := 4) (k := 4) (z := 12) hok.2.1 (fun cs hcs => (hok.2.2 cs hcs).2.1) (fun cs hcs c hc => ?_)) (by decide)
    rcases (hok.2.2 cs hcs).2.2 c hc with ⟨h1, _⟩ | ⟨_, m, h1, _, _, h2⟩
    · have : c.tg.size = c.tg.data.toList.length := Array.length_toList.symm
      rw [this, h1]; exact Nat.zero_le _
    · rw [h1, bytesOf_size]
      unfold innB at h2
      rw [Bool.and_eq_true] at h2
      have := of_decide_eq_true h2.1
      simp [tagL]
      omega
theorem pth_path {l : List UInt8} : (parseP l).1.length ≤ 4 ∧ ∀ s ∈ (parseP l).1, s.size ≤ 8 := by
  by_cases h : (parseP l).2 = true
  · have hp := parseP_path h
    have h2 : (∀ s ∈ (parseP l).1, nameB s = true) ∧ (parseP l).1.length ≤ 4 := by
      unfold pathB at hp
      rw [Bool.and_eq_true, decide_eq_true_eq, List.all_eq_true] at hp
      exact hp
    exact ⟨h2.2, fun s hs => nameB_size (h2.1 s hs)⟩
  · have h1 : (parseP l).1 = [] := by
      unfold parseP at h ⊢
      split at h
      · rename_i hc
        rw [if_pos hc]
        split at h
        · split at h
          · exact absurd rfl h
          · rename_i hq; simp_all
        · rename_i hq; simp_all
      · rename_i hc
        rw [if_neg hc]
    rw [h1]
    exact ⟨Nat.zero_le _, fun s hs => by cases hs⟩
theorem tk_few (r : Rq) : (tkL r).length ≤ 1048576 := by
  unfold tkL
  have h1 := if_small (ifV r).1
  have h2 : (subI (ifLs (ifV r).1)).length ≤ szRs ((ifLs (ifV r).1).map dCs) := by
    generalize ifLs (ifV r).1 = l
    rw [sz_sum2]
    unfold subI subC
    rw [List.length_map]
    refine Nat.le_trans (List.length_filter_le _ _) ?_
    induction l with
    | nil => exact Nat.le_refl _
    | cons a b ih =>
      rw [List.flatten_cons, List.length_append, List.map_cons, List.sum_cons]
      have h3 : a.length ≤ szRs (a.map dCn) := by
        rw [sz_sum]
        induction a with
        | nil => exact Nat.zero_le _
        | cons c d ih2 => rw [List.map_cons, List.sum_cons, List.length_cons]; omega
      omega
  omega
end Go.Proofs.YtfhcniifennfbaaGreatDoor
namespace Go.Proofs.YtfhcniifennfbaaGreatDoor
open Go.RowKit M


/-- The heads that a slice holds, in a block below B. -/
def Hds (w : World) (B : Nat) (a : Option Addr) (hs : List Hd) : Prop :=
  0 < hs.length → ∃ b o, a = some ⟨b, o, none⟩ ∧ b < B ∧ ∀ j (hj : j < hs.length), w.cell? ⟨b, o + j * 2, none⟩ = some (.string hs[j].1) ∧ w.cell? ⟨b, o + j * 2 + 1, none⟩ = some (.string hs[j].2)

theorem Hds.below {w w' : World} {B C : Nat} {a : Option Addr} {hs : List Hd} (h : Hds w B a hs) (hb : Below C w w') (hB : B ≤ C) : Hds w' B a hs := fun h0 => by
  obtain ⟨b, o, e, hbB, hc⟩ := h h0
  exact ⟨b, o, e, hbB, fun j hj => ⟨(hb.cell (p := ⟨b, o + j * 2, none⟩) (Nat.lt_of_lt_of_le hbB hB)).trans (hc j hj).1, (hb.cell (p := ⟨b, o + j * 2 + 1, none⟩) (Nat.lt_of_lt_of_le hbB hB)).trans (hc j hj).2⟩⟩
theorem Hds.mono {w : World} {B C : Nat} {a : Option Addr} {hs : List Hd} (h : Hds w B a hs) (hB : B ≤ C) : Hds w C a hs := fun h0 => by
  obtain ⟨b, o, e, hbB, hc⟩ := h h0
  exact ⟨b, o, e, Nat.lt_of_lt_of_le hbB hB, hc⟩

theorem Hds.store {w : World} {B g o : Nat} {hs : List Hd} (h : Hds w B (some ⟨g, o, none⟩) hs) (p : Addr) (v : Value) (hp : p.block ≠ g) : Hds (w.setCell p v) B (some ⟨g, o, none⟩) hs := fun h0 => by
  obtain ⟨b, o', e, hbB, hc⟩ := h h0
  cases e
  exact ⟨g, o, rfl, hbB, fun j hj => ⟨(World.cell?_setCell_other _ _ _ _ (fun e => hp (congrArg Addr.block e))).trans (hc j hj).1, (World.cell?_setCell_other _ _ _ _ (fun e => hp (congrArg Addr.block e))).trans (hc j hj).2⟩⟩

/-- All of them short enough. -/
def ShortH (hs : List Hd) : Prop := ∀ h ∈ hs, h.1.size ≤ maxLen ∧ h.2.size ≤ maxLen
theorem ShortH.at {hs : List Hd} (h : ShortH hs) (k : Nat) (hk : k < hs.length) : (hs[k]).1.size ≤ maxLen ∧ (hs[k]).2.size ≤ maxLen := h _ (List.getElem_mem hk)

/-- A request all of whose parts are short enough. -/
def ShortR (r : Rq) : Prop := r.m.size ≤ maxLen ∧ r.p.size ≤ maxLen ∧ r.b.size ≤ maxLen ∧ r.hs.length ≤ maxLen ∧ ShortH r.hs

/-- The value of a head, and of a request. -/
def hdV (h : Hd) : Value := .agg #[.string h.1, .string h.2]
def rqV (a : Option Addr) (n cap : Nat) (r : Rq) : Value := .agg #[.string r.m, .string r.p, .slice a n cap, .string r.b]

theorem strInj {a b : ByteArray} (h : a.toList = b.toList) : a = b := by
  rw [ByteArray.toList_eq, ByteArray.toList_eq] at h
  exact ByteArray.ext (Array.ext' h)

/-- What was there reads as it did, behind a call that only made memory. -/
theorem bcell {W w1 : World} (hb : Below W.heap.size W w1) : (∀ b o, b < W.heap.size → w1.cell? ⟨b, o, none⟩ = W.cell? ⟨b, o, none⟩) ∧ (∀ b o, b < W.heap.size → w1.frozen? ⟨b, o, none⟩ = W.frozen? ⟨b, o, none⟩) :=
  ⟨fun b o h => hb.cell (p := ⟨b, o, none⟩) h, fun b o h => hb.frozen (p := ⟨b, o, none⟩) h⟩
end Go.Proofs.YtfhcniifennfbaaGreatDoor
namespace Go.Proofs.YtfhcniifennfbaaGreatDoor
open Go.RowKit M
set_option linter.unusedVariables false

theorem neStrB {x y : ByteArray} (h : ¬ x = y) : (x.toList == y.toList) = false := by
  rw [beq_eq_false_iff_ne]; exact fun e => h (strInj e)
theorem eqStrB {x y : ByteArray} (h : x = y) : (x.toList == y.toList) = true := by rw [h]; simp

theorem ret_twoH {x y : ByteArray} {a b : Bool} (h1 : x = y) (h2 : a = b) : Ending.returned (.tuple #[.string x, .bool a]) = .returned (.tuple #[.string y, .bool b]) := by rw [h1, h2]

set_option maxHeartbeats 400000 in
theorem specHeadOf_any (a : Option Addr) (hs : List Hd) (cap B : Nat) (name : ByteArray) (w : World) (h : Hds w B a hs) (hl : hs.length ≤ maxLen) :
    Calls Tryz.prog 21 #[.slice a hs.length cap, .string name] w fun e w' => e = .returned (.tuple #[.string (hdOf hs name).1, .bool (hdOf hs name).2]) ∧ w' = w := by
  unfold maxLen at hl
  go_enter Tryz.func21, Tryz.ntmps21
  go_wp2
  go_loop [6] (fun i => ∃ k : Nat, k ≤ hs.length ∧ i = .int .i64 k ∧ hdOf hs name = hdOf (hs.drop k) name) (fun i => hs.length - (intOf i).toNat)
  case atStart => exact ⟨0, Nat.zero_le _, rfl, rfl⟩
  case round =>
    obtain ⟨k, hk, rfl, ht⟩ := hrel
    have HT : Hid (hdOf hs name = hdOf (hs.drop k) name) := ht
    clear ht
    by_cases hlt : k < hs.length
    · obtain ⟨b, o, rfl, hb, hc⟩ := h (by omega)
      have hcx := (hc k hlt).1
      have hcy := (hc k hlt).2
      clear hc
      by_cases he : hs[k].1 = name
      · have e1 := eqStrB he
        have HE : Hid (hdOf hs name = (hs[k].2, true)) := hdOf_at hs k hlt name HT.out he
        clear he
        go_wp2
        go_ret2
        exact ⟨ret_twoH (by rw [HE.out]) (by rw [HE.out]), rfl⟩
      · have e1 := neStrB he
        have HE : Hid (hdOf hs name = hdOf (hs.drop (k + 1)) name) := hdOf_next hs k hlt name HT.out he
        clear he
        go_wp2
        go_round
        case rel => exact ⟨k + 1, by omega, by go_num, HE.out⟩
        case measure => simp [intOf]; omega
    · have HE : Hid (hdOf hs name = (ByteArray.empty, false)) := hdOf_end hs k hlt name HT.out
      go_wp2
      go_ret2
      exact ⟨ret_twoH (by rw [HE.out]; rfl) (by rw [HE.out]), rfl⟩

set_option maxHeartbeats 1000000 in
theorem headOf_any (a : Option Addr) (hs : List Hd) (cap B : Nat) (name : ByteArray) (w : World) (h : Hds w B a hs) (hB : B ≤ w.heap.size) (hl : hs.length ≤ maxLen) (hz : ∀ x ∈ hs, x.2.size ≤ 281474976710656) :
    Calls Tryz.prog 64 #[.slice a hs.length cap, .string name] w fun e w' => e = .returned (.tuple #[.string (hdOf hs name).1, .bool (hdOf hs name).2]) ∧ Below w.heap.size w w' := by
  unfold maxLen at hl
  go_enter Tryz.func64, Tryz.ntmps64
  go_wp2
  go_loopw [10] (fun i wr => ∃ k : Nat, k ≤ hs.length ∧ i = .int .i64 k ∧ hdOf hs name = hdOf (hs.drop k) name ∧ Below w.heap.size w wr) (fun i _ => hs.length - (intOf i).toNat)
  case atStart => exact ⟨0, Nat.zero_le _, rfl, rfl, Below.refl _ _⟩
  case round =>
    obtain ⟨k, hk, rfl, ht, hbe⟩ := hrel
    have HT : Hid (hdOf hs name = hdOf (hs.drop k) name) := ht
    clear ht
    by_cases hlt : k < hs.length
    · obtain ⟨b, o, rfl, hb, hc⟩ := (h.below hbe hB) (by omega)
      have hcx := (hc k hlt).1
      have hcy := (hc k hlt).2
      have hz2 := hz _ (List.getElem_mem hlt)
      clear hc
      by_cases he : hs[k].1 = name
      · have e1 := eqStrB he
        have HE : Hid (hdOf hs name = (hs[k].2, true)) := hdOf_at hs k hlt name HT.out he
        clear he
        go_wp2_with fail
        refine (clone_any hs[k].2 _ hz2).mono ?_
        rintro e w1 ⟨rfl, b1⟩
        have c1 := (hbe.alloc hbe.size (Obj.cells #[.string hs[k].1, .string hs[k].2] 89)).trans (b1.mono (by have := hbe.size; simp; omega))
        go_wp2
        go_ret2
        exact ⟨ret_twoH (by rw [HE.out]) (by rw [HE.out]), c1⟩
      · have e1 := neStrB he
        have HE : Hid (hdOf hs name = hdOf (hs.drop (k + 1)) name) := hdOf_next hs k hlt name HT.out he
        clear he
        go_wp2
        go_roundw
        case rel => exact ⟨k + 1, by omega, by go_num, HE.out, hbe.alloc hbe.size _⟩
        case measure => simp [intOf]; omega
    · have HE : Hid (hdOf hs name = (ByteArray.empty, false)) := hdOf_end hs k hlt name HT.out
      go_wp2
      go_ret2
      exact ⟨ret_twoH (by rw [HE.out]; rfl) (by rw [HE.out]), hbe⟩
end Go.Proofs.YtfhcniifennfbaaGreatDoor
namespace Go.Proofs.YtfhcniifennfbaaGreatDoor
open Go.RowKit M

theorem bytes_row (w : World) (s : ByteArray) : RowAt (Lib.bytesWorld w 5 s) w.heap.size s.data.toList := by
  intro j hj
  have e : s.data.toList.length = s.size := Array.length_toList
  refine ⟨?_, ?_⟩
  · rw [Lib.bytesWorld_cell w 5 s j (by omega)]
    simp [List.getD, List.getElem?_eq_getElem hj]
  · have hsz : j < (Lib.bytesCells w 5 s).size := by
      simp only [Lib.bytesCells, Array.size_append, Array.size_map]
      have : s.data.size = s.size := rfl
      omega
    simp [World.frozen?, Lib.bytesWorld_at_new]
    omega

set_option maxHeartbeats 1000000 in
theorem lower_any (s : ByteArray) (w : World) (hs : s.size ≤ 140737488355328) :
    Calls Tryz.prog 96 #[.string s] w fun e w' => e = .returned (.string ⟨(lowL s.data.toList).toArray⟩) ∧ Below w.heap.size w w' := by
  have hcv := Lib.run_convert_string_bytes (P := Tryz.prog) w 9 124 5 s Tryz.underlying9 Tryz.underlying124 Tryz.underlying5
  have el : s.data.toList.length = s.size := Array.length_toList
  have EL : Hid (s.data.toList.length = s.size) := el
  clear el
  go_enter Tryz.func96, Tryz.ntmps96
  go_wp2
  clear hcv
  go_loopw [10] (fun i wr => ∃ k : Nat, k ≤ s.size ∧ i = .int .i64 k ∧ RowAt wr w.heap.size (mixL s.data.toList k) ∧ Below w.heap.size w wr ∧ w.heap.size < wr.heap.size) (fun i _ => s.size - (intOf i).toNat)
  case atStart =>
    refine ⟨0, Nat.zero_le _, rfl, by rw [mixL_zero]; exact bytes_row w s, ⟨rfl, rfl, rfl, ?_, fun k hk => Lib.bytesWorld_at_old w _ s k hk⟩, ?_⟩
    · rw [Lib.bytesWorld_size]; omega
    · rw [Lib.bytesWorld_size]; omega
  case round =>
    obtain ⟨k, hk, rfl, hrow, hbe, hN⟩ := hrel
    by_cases hlt : k < s.size
    · have hl := mixL_length s.data.toList k
      have hkl : k < (mixL s.data.toList k).length := by rw [hl]; have := EL.out; omega
      have hkl' : k < s.data.toList.length := by have := EL.out; omega
      obtain ⟨hc0, hf0⟩ := hrow k hkl
      rw [mixL_get _ _ hkl' hkl] at hc0
      have hc : wr.cell? ⟨w.heap.size, k, none⟩ = some (.int .u8 (s[k]).toNat) := hc0
      clear hc0 hl
      cases hb : isB ((s[k]).toNat : Int) 3
      · go_wp2_with (go_at_call 127; refine (isOneOf_any _ [3] 1 _ 0 1 _ rfl (by decide) (cells1 _ 3 161)).mono ?_; rintro e w' ⟨rfl, rfl⟩; rw [anyB_one, hb])
        go_roundw
        case rel =>
          refine ⟨k + 1, by omega, by go_num, ?_, hbe.alloc hbe.size _, by simp; omega⟩
          have e : mixL s.data.toList (k + 1) = mixL s.data.toList k := by
            rw [mixL_succ _ _ hkl']
            have e2 : lowB s.data.toList[k] = (mixL s.data.toList k)[k] := by
              rw [mixL_get _ _ hkl' hkl]; exact lowB_no _ hb
            rw [e2, List.set_getElem_self]
          rw [e]; exact hrow.alloc hN _
        case measure => simp [intOf]; omega
      · have h65 := isB3 hb
        go_wp2_with (go_at_call 127; refine (isOneOf_any _ [3] 1 _ 0 1 _ rfl (by decide) (cells1 _ 3 161)).mono ?_; rintro e w' ⟨rfl, rfl⟩; rw [anyB_one, hb])
        have hv : (Value.int IntKind.u8 (((s[k]).toNat : Int) - 65 + 97)) = Value.int IntKind.u8 ((lowB s[k]).toNat : Int) := by
          rw [lowB_yes _ hb]
          congr 1
          simp
          omega
        rw [hv]
        go_roundw
        case rel =>
          refine ⟨k + 1, by omega, by go_num, ?_, (hbe.setCell (Nat.le_refl _) _).alloc (by simp; exact hbe.size) _, by simp; omega⟩
          rw [mixL_succ _ _ hkl']
          exact (hrow.set k hkl _).alloc (by simpa using hN) _
        case measure => simp [intOf]; omega
    · have hcw := conv_row (cap := grownCap w s.size 0 5) hrow (show (mixL s.data.toList k).length = s.size by rw [mixL_length]; exact EL.out)
      rw [mixL_all _ _ (by have := EL.out; omega)] at hcw
      go_wp2
      go_ret
      exact ⟨rfl, hbe⟩
end Go.Proofs.YtfhcniifennfbaaGreatDoor
namespace Go.Proofs.YtfhcniifennfbaaGreatDoor
open Go.RowKit M

set_option maxHeartbeats 400000 in
theorem l1Large_any (c : UInt8) (w : World) :
    Calls Tryz.prog 79 #[.int .u8 c.toNat] w fun e w' => e = .returned (.bool (isB c.toNat 3)) ∧ w' = w := by
  go_enter Tryz.func79, Tryz.ntmps79
  go_wp2_with (go_at_call 113; refine (l1In_any _ _ _ _).mono ?_; rintro e w' ⟨rfl, rfl⟩; rw [wrap64_u8, inB_large])
  go_ret
  exact ⟨rfl, rfl⟩
end Go.Proofs.YtfhcniifennfbaaGreatDoor
namespace Go.Proofs.YtfhcniifennfbaaGreatDoor
open Go.RowKit M

set_option maxHeartbeats 1000000 in
theorem specLower_any (s : ByteArray) (w : World) (hs : s.size ≤ 140737488355328) :
    Calls Tryz.prog 47 #[.string s] w fun e w' => e = .returned (.string ⟨(lowL s.data.toList).toArray⟩) ∧ Below w.heap.size w w' := by
  go_enter Tryz.func47, Tryz.ntmps47
  go_wp2
  go_loopw [3, 4] (fun v i wr => ∃ k : Nat, k ≤ s.size ∧ i = .int .i64 k ∧ wr.ownsRow w.heap.size 5 1 v k (Lib.byteCells (lowL (s.data.toList.take k))) ∧ Below w.heap.size w wr) (fun _ i _ => s.size - (intOf i).toNat)
  case atStart => exact ⟨0, Nat.zero_le _, rfl, World.ownsRow_made w #[] 0 (Nat.le_refl _) (by decide) rfl, (Below.refl _ _).alloc (Nat.le_refl _) _⟩
  case round =>
    obtain ⟨k, hk, rfl, hown, hbe⟩ := hrel
    by_cases hlt : k < s.size
    · have HL : Hid (lowL (s.data.toList.take (k + 1)) = lowL (s.data.toList.take k) ++ [lowB s[k]]) := lowL_snoc s k hlt
      cases hb : isB ((s[k]).toNat : Int) 3
      · go_wp2_with (first | (go_at_call 79; refine (l1Large_any _ _).mono ?_; rintro e w' ⟨rfl, rfl⟩; rw [hb]) | (at_builtin; refine wp_append_byte rfl _ _ rfl w.heap.size _ k _ rfl (hown.alloc _) _ (lowB s[k]) rfl ?c1 ?c2 ?c3 ?_))
        case c1 => rw [lowB_no _ hb]; simp
        case c2 => omega
        case c3 => have := hbe.size; simp; omega
        intro v1 w1 ho1 hb1
        rw [← HL.out] at ho1
        go_wp2
        go_roundw
        case rel => exact ⟨k + 1, by omega, by go_num, ho1, (hbe.alloc hbe.size _).trans hb1⟩
        case measure => simp [intOf]; omega
      · have hc := isB3 hb
        go_wp2_with (first | (go_at_call 79; refine (l1Large_any _ _).mono ?_; rintro e w' ⟨rfl, rfl⟩; rw [hb]) | (at_builtin; refine wp_append_byte rfl _ _ rfl w.heap.size _ k _ rfl (hown.alloc _) _ (lowB s[k]) rfl ?c1 ?c2 ?c3 ?_))
        case c1 => rw [lowB_yes _ hb]; simp
        case c2 => omega
        case c3 => have := hbe.size; simp; omega
        intro v1 w1 ho1 hb1
        rw [← HL.out] at ho1
        go_wp2
        go_roundw
        case rel => exact ⟨k + 1, by omega, by go_num, ho1, (hbe.alloc hbe.size _).trans hb1⟩
        case measure => simp [intOf]; omega
    · have hcv := conv_own hown
      go_wp2
      go_ret
      exact ⟨ret_str (by rw [take_all s k hlt]), hbe⟩
end Go.Proofs.YtfhcniifennfbaaGreatDoor
