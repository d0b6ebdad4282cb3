/-
  Plain facts on where a text is cut: no program in sight.
  What the program's wordAhead does.
  A store into a row, as the memory has it then.
  What the program's Lower does.
-/
import Derived.Test.YtanebchmeaomgaaGreatDoorMathGet
import Derived.Test.YtanebchmeaomgaaGreatDoorHeads
import Derived.Test.YtanebchmeaomgaaGreatDoorSpecSm
import Derived.Scope
import Derived.WalkMore
import Derived.Laws.Rows
import Derived.Laws.ResultCell
import Derived.Test.YtanebchmeaomgaaGreatDoorPutHead
import Derived.Lib.ConvBytes
namespace Go.Proofs.YtanebchmeaomgaaGreatDoor.M

theorem cut1_idx (c : UInt8) : ∀ t : List UInt8, (Lib.index t [c] = -1 ∧ cut1 c t = none) ∨ ∃ i : Nat, Lib.index t [c] = i ∧ i + 1 ≤ t.length ∧ cut1 c t = some (t.take i, t.drop (i + 1)) := by
  intro t
  induction t with
  | nil => left; exact ⟨rfl, rfl⟩
  | cons x r ih =>
    unfold Lib.index
    rw [cut1]
    by_cases hx : x = c
    · right
      refine ⟨0, ?_, by simp, ?_⟩
      · subst hx; simp [List.isPrefixOf]
      · rw [if_pos hx]; simp
    · have hp : List.isPrefixOf [c] (x :: r) = false := by simp [List.isPrefixOf]; exact fun e => hx e.symm
      rw [hp, if_neg hx]
      rcases ih with ⟨h1, h2⟩ | ⟨i, h1, h2, h3⟩
      · left
        rw [h1, h2]
        exact ⟨rfl, rfl⟩
      · right
        refine ⟨i + 1, ?_, by simp; omega, ?_⟩
        · rw [h1]
          have : ((i : Int) == -1) = false := by rw [beq_eq_false_iff_ne]; omega
          simp [this]
        · rw [h3]; simp
theorem cut2_idx : ∀ t : List UInt8, (Lib.index t [13, 10] = -1 ∧ cut2 t = none) ∨ ∃ i : Nat, Lib.index t [13, 10] = i ∧ i + 2 ≤ t.length ∧ cut2 t = some (t.take i, t.drop (i + 2)) := by
  intro t
  induction t with
  | nil => left; exact ⟨rfl, rfl⟩
  | cons x r ih =>
    unfold Lib.index
    rw [cut2]
    by_cases hx : x = 13 ∧ r.head? = some 10
    · right
      obtain ⟨h1, h2⟩ := hx
      cases r with
      | nil => simp at h2
      | cons y q =>
        simp at h2
        subst h1 h2
        exact ⟨0, by simp [List.isPrefixOf], by simp, by simp⟩
    · have hp : List.isPrefixOf [13, 10] (x :: r) = false := by
        cases r with
        | nil => simp [List.isPrefixOf]
        | cons y q =>
          simp only [List.head?_cons, Option.some.injEq] at hx
          rw [Bool.eq_false_iff]
          intro e
          simp [List.isPrefixOf] at e
          exact hx ⟨e.1.symm, e.2.symm⟩
      rw [hp, if_neg hx]
      rcases ih with ⟨h1, h2⟩ | ⟨i, h1, h2, h3⟩
      · left
        rw [h1, h2]
        exact ⟨rfl, rfl⟩
      · right
        refine ⟨i + 1, ?_, by simp; omega, ?_⟩
        · rw [h1]
          have : ((i : Int) == -1) = false := by rw [beq_eq_false_iff_ne]; omega
          simp [this]
        · rw [h3]; simp
/-- What stands ahead of a stop, and behind it. -/
def cutS (sep t : List UInt8) : Option (List UInt8 × List UInt8) := if 0 ≤ Lib.index t sep then some (t.take (Lib.index t sep).toNat, t.drop ((Lib.index t sep).toNat + sep.length)) else none
theorem cutS_one (c : UInt8) (t : List UInt8) : cutS [c] t = cut1 c t := by
  unfold cutS
  rcases cut1_idx c t with ⟨h1, h2⟩ | ⟨i, h1, _, h3⟩
  · rw [h1, h2]; rfl
  · rw [h1, h3, if_pos (by omega), Int.toNat_natCast]; rfl
theorem cutS_two (t : List UInt8) : cutS [13, 10] t = cut2 t := by
  unfold cutS
  rcases cut2_idx t with ⟨h1, h2⟩ | ⟨i, h1, _, h3⟩
  · rw [h1, h2]; rfl
  · rw [h1, h3, if_pos (by omega), Int.toNat_natCast]; rfl
theorem cutS_len {sep t a b : List UInt8} (h : cutS sep t = some (a, b)) : a.length + sep.length + b.length = t.length := by
  unfold cutS at h
  split at h
  · rename_i h0
    have hr := Lib.index_room t sep h0
    cases h
    rw [List.length_take, List.length_drop]
    omega
  · cases h
end Go.Proofs.YtanebchmeaomgaaGreatDoor.M
namespace Go.Proofs.YtanebchmeaomgaaGreatDoor
open Go.RowKit M
set_option linter.unusedVariables false

/-- A part of the bytes that came in: its address, its length, its room. -/
def Rst (w : World) (B : Nat) (v : Value) (t : List UInt8) : Prop := ∃ (a : Option Addr) (c : Nat), v = .slice a t.length c ∧ Byt w B a t ∧ t.length ≤ c ∧ c ≤ maxLen ∧ (a = none → c = 0) ∧ (∀ x, a = some x → x.spot = none)
theorem Rst.below {w w' : World} {B C : Nat} {v : Value} {t : List UInt8} (h : Rst w B v t) (hb : Below C w w') (hB : B ≤ C) : Rst w' B v t := by
  obtain ⟨a, c, rfl, h1, h2⟩ := h
  exact ⟨a, c, rfl, h1.below hb hB, h2⟩

theorem bytesIn_of {w : World} {B : Nat} {a : Option Addr} {t : List UInt8} (h : Byt w B a t) : Lib.BytesIn w a t.length (numsOf t) := fun h0 => by
  obtain ⟨b, o, e, _, hc⟩ := h h0
  exact ⟨b, o, e, fun i hi => by rw [hc i hi]; simp [numsOf, List.getD, List.getElem?_eq_getElem hi]⟩
/-- What wordAhead hands back, of a text that is cut so. -/
def WordIs (w : World) (B : Nat) (r : Option (List UInt8 × List UInt8)) (word : ByteArray) (v : Value) (ok : Bool) : Prop :=
  match r with
  | none => ok = false ∧ v = .slice none 0 0
  | some (a, b) => ok = true ∧ word = bytesOf a ∧ Rst w B v b

set_option maxRecDepth 100000 in
set_option maxHeartbeats 2000000 in
theorem wordAhead_any (v : Value) (t : List UInt8) (sep : ByteArray) (B : Nat) (m : Int) (w : World) (h : Rst w B v t) (hB : B ≤ w.heap.size) (ht : t.length ≤ 1073741824) (hs : sep.size ≤ 16) (hs0 : 0 < sep.size) (h0 : 0 < w.heap.size) (hmx : w.cell? ⟨0, 0, none⟩ = some (.int .i64 m)) :
    Calls Tryz.prog 198 #[v, .string sep] w fun e w' => (∃ (word : ByteArray) (v' : Value) (ok : Bool), e = .returned (.tuple #[.string word, v', .bool ok]) ∧ WordIs w' B (cutS sep.data.toList t) word v' ok ∧ word.size ≤ t.length) ∧ Below w.heap.size w w' := by
  obtain ⟨a, c, rfl, hy, hc1, hc2, hc3, hc4⟩ := h
  have hcv := Lib.run_convert_string_bytes (P := Tryz.prog) w 9 22 5 sep Tryz.underlying9 Tryz.underlying22 Tryz.underlying5
  have hbw : Below w.heap.size w (Lib.bytesWorld w 5 sep) := ⟨rfl, rfl, rfl, by rw [Lib.bytesWorld_size]; omega, fun k hk => Lib.bytesWorld_at_old w 5 sep k hk⟩
  have hys : Byt (Lib.bytesWorld w 5 sep) (w.heap.size + 1) (some ⟨w.heap.size, 0, none⟩) sep.data.toList := fun _ =>
    ⟨w.heap.size, 0, rfl, Nat.lt_succ_self _, fun j hj => by
      have e : sep.data.toList.length = sep.size := Array.length_toList
      rw [Nat.zero_add, Lib.bytesWorld_cell w 5 sep j (by omega)]
      simp [List.getD, List.getElem?_eq_getElem hj]⟩
  have hy1 := hy.below hbw hB
  have es : sep.data.toList.length = sep.size := Array.length_toList
  have hin2 := bytesIn_of hys
  rw [es] at hin2
  have hC := Tryz.bytes_Cut_all a (some ⟨w.heap.size, 0, none⟩) t.length c sep.size (grownCap w sep.size 0 5) (numsOf t) (numsOf sep.data.toList) m (Lib.bytesWorld w 5 sep) (numsOf_length _) (by rw [numsOf_length, es]) (numsOf_range _) (numsOf_range _) (bytesIn_of hy1) hin2 hc3 hc1 (by omega) (by omega) ((hbw.cell (p := ⟨0, 0, none⟩) h0).trans hmx)
  rw [numsOf_bytes, numsOf_bytes] at hC
  have HC := hide hC
  have HY1 := hide hy1
  have HBW := hide hbw
  clear hC hmx h0 hy hys hin2 hy1 hbw
  unfold maxLen at hc2
  unfold Lib.cutV at HC
  by_cases hi : 0 ≤ Lib.index t sep.data.toList
  · have hr := Lib.index_room t sep.data.toList hi
    obtain ⟨i, hie⟩ := Int.eq_ofNat_of_zero_le hi
    have hcut : Hid (cutS sep.data.toList t = some (t.take i, t.drop (i + sep.size))) := by
      show cutS _ t = _
      unfold cutS
      rw [if_pos hi, hie, es]
      rfl
    rw [if_pos hi, hie] at HC
    rw [hie, es] at hr
    have hil : i + sep.size ≤ t.length := by omega
    obtain ⟨b, o, ha, hb, hcc⟩ := HY1.out (by omega)
    subst ha
    clear hcc hi hie hr
    rw [show ((i : Int).toNat) = i from Int.toNat_natCast i] at HC
    have hfrom : Lib.fromV (some ⟨b, o, none⟩) t.length c (i + sep.size) = .slice (if c = i + sep.size then some ⟨b, o, none⟩ else some ⟨b, o + (i + sep.size), none⟩) (t.length - (i + sep.size)) (c - (i + sep.size)) := by
      unfold Lib.fromV
      have hadd : (⟨b, o, none⟩ : Addr).add (i + sep.size) = ⟨b, o + (i + sep.size), none⟩ := by unfold Addr.add; split <;> simp_all
      simp [hadd]
    rw [hfrom] at HC
    obtain ⟨v', hv'⟩ : ∃ v', Value.slice (if c = i + sep.size then some (⟨b, o, none⟩ : Addr) else some ⟨b, o + (i + sep.size), none⟩) (t.length - (i + sep.size)) (c - (i + sep.size)) = v' := ⟨_, rfl⟩
    have HR : Hid (∀ W, Below w.heap.size w W → Byt W B (some ⟨b, o, none⟩) t → Rst W B v' (t.drop (i + sep.size))) := fun W _ hyW => by
      refine ⟨_, c - (i + sep.size), by rw [List.length_drop]; exact hv'.symm, ?_, by rw [List.length_drop]; omega, by unfold maxLen; omega, fun e => ?_, fun x e => ?_⟩
      · by_cases hce : c = i + sep.size
        · have : t.drop (i + sep.size) = [] := List.drop_of_length_le (by omega)
          rw [this]; exact Byt.nil _ _ _
        · rw [if_neg hce]; exact hyW.drop (i + sep.size)
      · split at e <;> cases e
      · split at e <;> (cases e; rfl)
    rw [hv'] at HC
    have hshape : ∃ a2 n2 c2, v' = .slice a2 n2 c2 := ⟨_, _, _, hv'.symm⟩
    obtain ⟨a2, n2, c2, rfl⟩ := hshape
    clear hv' hfrom
    go_enter Tryz.func198, Tryz.ntmps198
    go_wp2_with fail
    refine HC.out.mono ?_
    rintro e w1 ⟨rfl, q, rfl⟩
    have B1 : Hid (Below w.heap.size w ((Lib.bytesWorld w 5 sep).drewN q)) := below_drewN HBW.out q
    have Y1 : Hid (Byt ((Lib.bytesWorld w 5 sep).drewN q) B (some ⟨b, o, none⟩) t) := HY1.out
    clear HC hcv HY1 HBW
    generalize (Lib.bytesWorld w 5 sep).drewN q = w1 at *
    have hcw := conv_byt (Y1.out.take i) i c (by rw [List.length_take]; omega)
    go_wp2
    refine bodyPost_ret (v := .tuple #[.string ⟨(t.take i).toArray⟩, .slice a2 n2 c2, .bool true]) (by simp [results, Tryz.results198, go_sem]) rfl ?_
    rw [hcut.out]
    exact ⟨⟨_, _, _, rfl, ⟨rfl, rfl, HR.out w1 B1.out Y1.out⟩, by show (t.take i).toArray.size ≤ _; rw [List.size_toArray, List.length_take]; omega⟩, B1.out⟩
  · have hcut : Hid (cutS sep.data.toList t = none) := by
      show cutS _ t = _
      unfold cutS
      rw [if_neg hi]
    rw [if_neg hi] at HC
    clear hi
    go_enter Tryz.func198, Tryz.ntmps198
    go_wp2_with fail
    refine HC.out.mono ?_
    rintro e w1 ⟨rfl, q, rfl⟩
    have B1 : Hid (Below w.heap.size w ((Lib.bytesWorld w 5 sep).drewN q)) := below_drewN HBW.out q
    have Y1 : Hid (Byt ((Lib.bytesWorld w 5 sep).drewN q) B a t) := HY1.out
    clear HC hcv HY1 HBW
    generalize (Lib.bytesWorld w 5 sep).drewN q = w1 at *
    have hcw := conv_byt Y1.out t.length c rfl
    go_wp2
    refine bodyPost_ret (v := .tuple #[.string ⟨t.toArray⟩, .slice none 0 0, .bool false]) (by simp [results, Tryz.results198, go_sem]) rfl ?_
    rw [hcut.out]
    exact ⟨⟨_, _, _, rfl, ⟨rfl, rfl⟩, by show t.toArray.size ≤ _; rw [List.size_toArray]; omega⟩, B1.out⟩
end Go.Proofs.YtanebchmeaomgaaGreatDoor
namespace Go.Proofs.YtanebchmeaomgaaGreatDoor
open Go.RowKit M
set_option linter.unusedVariables false

theorem set_heap {w : World} {N : Nat} {cs : Array Value} {t : TypeId} (h : w.heap[N]? = some (.cells cs t)) (k : Nat) (v : Value) : (w.setCell ⟨N, k, none⟩ v).heap[N]? = some (.cells (cs.setIfInBounds k v) t) := by
  rw [setCell_eq_setRow w N k cs t _ v h]
  exact setRow_heap w N cs _ t _ h
theorem set_other {w : World} {N M k : Nat} {o : Obj} (h : w.heap[M]? = some o) (hne : M ≠ N) (v : Value) : (w.setCell ⟨N, k, none⟩ v).heap[M]? = some o := by
  have hb : ((Below.refl (M + 1) w).block M (Nat.lt_succ_self _)) = rfl := rfl
  rcases Nat.lt_or_gt_of_ne hne with hlt | hgt
  · exact (((Below.refl (M + 1) w).setCell (p := ⟨N, k, none⟩) hlt v).block M (Nat.lt_succ_self _)).trans h
  · show (w.heap.modify N _)[M]? = _
    rw [Array.getElem?_modify]
    simp [hne.symm, h]
end Go.Proofs.YtanebchmeaomgaaGreatDoor
namespace Go.Proofs.YtanebchmeaomgaaGreatDoor
open Go.RowKit M

theorem bytes_row (w : World) (s : ByteArray) : RowAt (Lib.bytesWorld w 5 s) w.heap.size s.data.toList := by
  intro j hj
  have e : s.data.toList.length = s.size := Array.length_toList
  refine ⟨?_, ?_⟩
  · rw [Lib.bytesWorld_cell w 5 s j (by omega)]
    simp [List.getD, List.getElem?_eq_getElem hj]
  · have hsz : j < (Lib.bytesCells w 5 s).size := by
      simp only [Lib.bytesCells, Array.size_append, Array.size_map]
      have : s.data.size = s.size := rfl
      omega
    simp [World.frozen?, Lib.bytesWorld_at_new]
    omega

set_option maxHeartbeats 1000000 in
theorem lower_any (s : ByteArray) (w : World) (hs : s.size ≤ 140737488355328) :
    Calls Tryz.prog 199 #[.string s] w fun e w' => e = .returned (.string ⟨(lowL s.data.toList).toArray⟩) ∧ Below w.heap.size w w' := by
  have hcv := Lib.run_convert_string_bytes (P := Tryz.prog) w 9 22 5 s Tryz.underlying9 Tryz.underlying22 Tryz.underlying5
  have el : s.data.toList.length = s.size := Array.length_toList
  have EL : Hid (s.data.toList.length = s.size) := el
  clear el
  go_enter Tryz.func199, Tryz.ntmps199
  go_wp2
  clear hcv
  go_loopw [10] (fun i wr => ∃ k : Nat, k ≤ s.size ∧ i = .int .i64 k ∧ RowAt wr w.heap.size (mixL s.data.toList k) ∧ Below w.heap.size w wr ∧ w.heap.size < wr.heap.size) (fun i _ => s.size - (intOf i).toNat)
  case atStart =>
    refine ⟨0, Nat.zero_le _, rfl, by rw [mixL_zero]; exact bytes_row w s, ⟨rfl, rfl, rfl, ?_, fun k hk => Lib.bytesWorld_at_old w _ s k hk⟩, ?_⟩
    · rw [Lib.bytesWorld_size]; omega
    · rw [Lib.bytesWorld_size]; omega
  case round =>
    obtain ⟨k, hk, rfl, hrow, hbe, hN⟩ := hrel
    by_cases hlt : k < s.size
    · have hl := mixL_length s.data.toList k
      have hkl : k < (mixL s.data.toList k).length := by rw [hl]; have := EL.out; omega
      have hkl' : k < s.data.toList.length := by have := EL.out; omega
      obtain ⟨hc0, hf0⟩ := hrow k hkl
      rw [mixL_get _ _ hkl' hkl] at hc0
      have hc : wr.cell? ⟨w.heap.size, k, none⟩ = some (.int .u8 (s[k]).toNat) := hc0
      clear hc0 hl
      cases hb : isB ((s[k]).toNat : Int) 3
      · go_wp2_with (go_at_call 180; refine (isOneOf_any _ [3] 1 _ 0 1 _ rfl (by decide) (cells1 _ 3 205)).mono ?_; rintro e w' ⟨rfl, rfl⟩; rw [anyB_one, hb])
        go_roundw
        case rel =>
          refine ⟨k + 1, by omega, by go_num, ?_, hbe.alloc hbe.size _, by simp; omega⟩
          have e : mixL s.data.toList (k + 1) = mixL s.data.toList k := by
            rw [mixL_succ _ _ hkl']
            have e2 : lowB s.data.toList[k] = (mixL s.data.toList k)[k] := by
              rw [mixL_get _ _ hkl' hkl]; exact lowB_no _ hb
            rw [e2, List.set_getElem_self]
          rw [e]; exact hrow.alloc hN _
        case measure => simp [intOf]; omega
      · have h65 := isB3 hb
        go_wp2_with (go_at_call 180; refine (isOneOf_any _ [3] 1 _ 0 1 _ rfl (by decide) (cells1 _ 3 205)).mono ?_; rintro e w' ⟨rfl, rfl⟩; rw [anyB_one, hb])
        have hv : (Value.int IntKind.u8 (((s[k]).toNat : Int) - 65 + 97)) = Value.int IntKind.u8 ((lowB s[k]).toNat : Int) := by
          rw [lowB_yes _ hb]
          congr 1
          simp
          omega
        rw [hv]
        go_roundw
        case rel =>
          refine ⟨k + 1, by omega, by go_num, ?_, (hbe.setCell (Nat.le_refl _) _).alloc (by simp; exact hbe.size) _, by simp; omega⟩
          rw [mixL_succ _ _ hkl']
          exact (hrow.set k hkl _).alloc (by simpa using hN) _
        case measure => simp [intOf]; omega
    · have hcw := conv_row (cap := grownCap w s.size 0 5) hrow (show (mixL s.data.toList k).length = s.size by rw [mixL_length]; exact EL.out)
      rw [mixL_all _ _ (by have := EL.out; omega)] at hcw
      go_wp2
      go_ret
      exact ⟨rfl, hbe⟩
end Go.Proofs.YtanebchmeaomgaaGreatDoor
