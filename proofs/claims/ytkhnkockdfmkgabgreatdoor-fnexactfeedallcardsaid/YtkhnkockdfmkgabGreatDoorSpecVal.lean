/-
  Plain facts on where a text is cut: no program in sight.
  Slices of heads: what they hold, and that it stays.
  What the program's wordAhead does.
  A store into a row, as the memory has it then.
  When a request is right, part by part.
  Two answers that are the same.
  What the program's calls on kinds of bytes do: isOf, isOneOf: each computes, and turns nothing in memory.
  What the specification's l1In does; a byte as an int.
  What spec.l1Large does.
  What the specification's own Plain does.
  What the specification's l1Blank and Trim do.
  What the specification's l3Val does.
-/
import Derived.Test.YtkhnkockdfmkgabGreatDoorMathGet
import Derived.Test.YtkhnkockdfmkgabGreatDoorRows
import Derived.WalkKit
import Derived.WalkSpells
import Derived.WalkLawsBesides
import Derived.Deep.Light
import Derived.Deep.QuietTactic
import Derived.Deep.OwnRows
import Derived.Scope
import Derived.WalkMore
import Derived.Laws.Rows
import Derived.Laws.ResultCell
namespace Go.Proofs.YtkhnkockdfmkgabGreatDoor.M

theorem cut1_idx (c : UInt8) : ∀ t : List UInt8, (Lib.index t [c] = -1 ∧ cut1 c t = none) ∨ ∃ i : Nat, Lib.index t [c] = i ∧ i + 1 ≤ t.length ∧ cut1 c t = some (t.take i, t.drop (i + 1)) := by
  intro t
  induction t with
  | nil => left; exact ⟨rfl, rfl⟩
  | cons x r ih =>
    unfold Lib.index
    rw [cut1]
    by_cases hx : x = c
    · right
      refine ⟨0, ?_, by simp, ?_⟩
      · subst hx; simp [List.isPrefixOf]
      · rw [if_pos hx]; simp
    · have hp : List.isPrefixOf [c] (x :: r) = false := by simp [List.isPrefixOf]; exact fun e => hx e.symm
      rw [hp, if_neg hx]
      rcases ih with ⟨h1, h2⟩ | ⟨i, h1, h2, h3⟩
      · left
        rw [h1, h2]
        exact ⟨rfl, rfl⟩
      · right
        refine ⟨i + 1, ?_, by simp; omega, ?_⟩
        · rw [h1]
          have : ((i : Int) == -1) = false := by rw [beq_eq_false_iff_ne]; omega
          simp [this]
        · rw [h3]; simp
theorem cut2_idx : ∀ t : List UInt8, (Lib.index t [13, 10] = -1 ∧ cut2 t = none) ∨ ∃ i : Nat, Lib.index t [13, 10] = i ∧ i + 2 ≤ t.length ∧ cut2 t = some (t.take i, t.drop (i + 2)) := by
  intro t
  induction t with
  | nil => left; exact ⟨rfl, rfl⟩
  | cons x r ih =>
    unfold Lib.index
    rw [cut2]
    by_cases hx : x = 13 ∧ r.head? = some 10
    · right
      obtain ⟨h1, h2⟩ := hx
      cases r with
      | nil => simp at h2
      | cons y q =>
        simp at h2
        subst h1 h2
        exact ⟨0, by simp [List.isPrefixOf], by simp, by simp⟩
    · have hp : List.isPrefixOf [13, 10] (x :: r) = false := by
        cases r with
        | nil => simp [List.isPrefixOf]
        | cons y q =>
          simp only [List.head?_cons, Option.some.injEq] at hx
          rw [Bool.eq_false_iff]
          intro e
          simp [List.isPrefixOf] at e
          exact hx ⟨e.1.symm, e.2.symm⟩
      rw [hp, if_neg hx]
      rcases ih with ⟨h1, h2⟩ | ⟨i, h1, h2, h3⟩
      · left
        rw [h1, h2]
        exact ⟨rfl, rfl⟩
      · right
        refine ⟨i + 1, ?_, by simp; omega, ?_⟩
        · rw [h1]
          have : ((i : Int) == -1) = false := by rw [beq_eq_false_iff_ne]; omega
          simp [this]
        · rw [h3]; simp
/-- What stands ahead of a stop, and behind it. -/
def cutS (sep t : List UInt8) : Option (List UInt8 × List UInt8) := if 0 ≤ Lib.index t sep then some (t.take (Lib.index t sep).toNat, t.drop ((Lib.index t sep).toNat + sep.length)) else none
theorem cutS_one (c : UInt8) (t : List UInt8) : cutS [c] t = cut1 c t := by
  unfold cutS
  rcases cut1_idx c t with ⟨h1, h2⟩ | ⟨i, h1, _, h3⟩
  · rw [h1, h2]; rfl
  · rw [h1, h3, if_pos (by omega), Int.toNat_natCast]; rfl
theorem cutS_two (t : List UInt8) : cutS [13, 10] t = cut2 t := by
  unfold cutS
  rcases cut2_idx t with ⟨h1, h2⟩ | ⟨i, h1, _, h3⟩
  · rw [h1, h2]; rfl
  · rw [h1, h3, if_pos (by omega), Int.toNat_natCast]; rfl
theorem cutS_len {sep t a b : List UInt8} (h : cutS sep t = some (a, b)) : a.length + sep.length + b.length = t.length := by
  unfold cutS at h
  split at h
  · rename_i h0
    have hr := Lib.index_room t sep h0
    cases h
    rw [List.length_take, List.length_drop]
    omega
  · cases h
end Go.Proofs.YtkhnkockdfmkgabGreatDoor.M
namespace Go.Proofs.YtkhnkockdfmkgabGreatDoor
open Go.RowKit M

theorem hide {p : Prop} (h : p) : Hid p := h

/-- The heads that a slice holds, in a block below B. -/
def Hds (w : World) (B : Nat) (a : Option Addr) (hs : List Hd) : Prop :=
  0 < hs.length → ∃ b o, a = some ⟨b, o, none⟩ ∧ b < B ∧ ∀ j (hj : j < hs.length), w.cell? ⟨b, o + j * 2, none⟩ = some (.string hs[j].1) ∧ w.cell? ⟨b, o + j * 2 + 1, none⟩ = some (.string hs[j].2)

theorem Hds.below {w w' : World} {B C : Nat} {a : Option Addr} {hs : List Hd} (h : Hds w B a hs) (hb : Below C w w') (hB : B ≤ C) : Hds w' B a hs := fun h0 => by
  obtain ⟨b, o, e, hbB, hc⟩ := h h0
  exact ⟨b, o, e, hbB, fun j hj => ⟨(hb.cell (p := ⟨b, o + j * 2, none⟩) (Nat.lt_of_lt_of_le hbB hB)).trans (hc j hj).1, (hb.cell (p := ⟨b, o + j * 2 + 1, none⟩) (Nat.lt_of_lt_of_le hbB hB)).trans (hc j hj).2⟩⟩
theorem Hds.mono {w : World} {B C : Nat} {a : Option Addr} {hs : List Hd} (h : Hds w B a hs) (hB : B ≤ C) : Hds w C a hs := fun h0 => by
  obtain ⟨b, o, e, hbB, hc⟩ := h h0
  exact ⟨b, o, e, Nat.lt_of_lt_of_le hbB hB, hc⟩

theorem Hds.store {w : World} {B g o : Nat} {hs : List Hd} (h : Hds w B (some ⟨g, o, none⟩) hs) (p : Addr) (v : Value) (hp : p.block ≠ g) : Hds (w.setCell p v) B (some ⟨g, o, none⟩) hs := fun h0 => by
  obtain ⟨b, o', e, hbB, hc⟩ := h h0
  cases e
  exact ⟨g, o, rfl, hbB, fun j hj => ⟨(World.cell?_setCell_other _ _ _ _ (fun e => hp (congrArg Addr.block e))).trans (hc j hj).1, (World.cell?_setCell_other _ _ _ _ (fun e => hp (congrArg Addr.block e))).trans (hc j hj).2⟩⟩

/-- All of them short enough. -/
def ShortH (hs : List Hd) : Prop := ∀ h ∈ hs, h.1.size ≤ maxLen ∧ h.2.size ≤ maxLen
theorem ShortH.at {hs : List Hd} (h : ShortH hs) (k : Nat) (hk : k < hs.length) : (hs[k]).1.size ≤ maxLen ∧ (hs[k]).2.size ≤ maxLen := h _ (List.getElem_mem hk)

/-- A request all of whose parts are short enough. -/
def ShortR (r : Rq) : Prop := r.m.size ≤ maxLen ∧ r.p.size ≤ maxLen ∧ r.b.size ≤ maxLen ∧ r.hs.length ≤ maxLen ∧ ShortH r.hs

/-- The value of a head, and of a request. -/
def hdV (h : Hd) : Value := .agg #[.string h.1, .string h.2]
def rqV (a : Option Addr) (n cap : Nat) (r : Rq) : Value := .agg #[.string r.m, .string r.p, .slice a n cap, .string r.b]

theorem strInj {a b : ByteArray} (h : a.toList = b.toList) : a = b := by
  rw [ByteArray.toList_eq, ByteArray.toList_eq] at h
  exact ByteArray.ext (Array.ext' h)

/-- What was there reads as it did, behind a call that only made memory. -/
theorem bcell {W w1 : World} (hb : Below W.heap.size W w1) : (∀ b o, b < W.heap.size → w1.cell? ⟨b, o, none⟩ = W.cell? ⟨b, o, none⟩) ∧ (∀ b o, b < W.heap.size → w1.frozen? ⟨b, o, none⟩ = W.frozen? ⟨b, o, none⟩) :=
  ⟨fun b o h => hb.cell (p := ⟨b, o, none⟩) h, fun b o h => hb.frozen (p := ⟨b, o, none⟩) h⟩
end Go.Proofs.YtkhnkockdfmkgabGreatDoor
namespace Go.Proofs.YtkhnkockdfmkgabGreatDoor
open Go.RowKit M
set_option linter.unusedVariables false

/-- A part of the bytes that came in: its address, its length, its room. -/
def Rst (w : World) (B : Nat) (v : Value) (t : List UInt8) : Prop := ∃ (a : Option Addr) (c : Nat), v = .slice a t.length c ∧ Byt w B a t ∧ t.length ≤ c ∧ c ≤ maxLen ∧ (a = none → c = 0) ∧ (∀ x, a = some x → x.spot = none)
theorem Rst.below {w w' : World} {B C : Nat} {v : Value} {t : List UInt8} (h : Rst w B v t) (hb : Below C w w') (hB : B ≤ C) : Rst w' B v t := by
  obtain ⟨a, c, rfl, h1, h2⟩ := h
  exact ⟨a, c, rfl, h1.below hb hB, h2⟩

theorem bytesIn_of {w : World} {B : Nat} {a : Option Addr} {t : List UInt8} (h : Byt w B a t) : Lib.BytesIn w a t.length (numsOf t) := fun h0 => by
  obtain ⟨b, o, e, _, hc⟩ := h h0
  exact ⟨b, o, e, fun i hi => by rw [hc i hi]; simp [numsOf, List.getD, List.getElem?_eq_getElem hi]⟩
/-- What wordAhead hands back, of a text that is cut so. -/
def WordIs (w : World) (B : Nat) (r : Option (List UInt8 × List UInt8)) (word : ByteArray) (v : Value) (ok : Bool) : Prop :=
  match r with
  | none => ok = false ∧ v = .slice none 0 0
  | some (a, b) => ok = true ∧ word = bytesOf a ∧ Rst w B v b

set_option maxRecDepth 100000 in
set_option maxHeartbeats 2000000 in
theorem wordAhead_any (v : Value) (t : List UInt8) (sep : ByteArray) (B : Nat) (m : Int) (w : World) (h : Rst w B v t) (hB : B ≤ w.heap.size) (ht : t.length ≤ 1073741824) (hs : sep.size ≤ 16) (hs0 : 0 < sep.size) (h0 : 0 < w.heap.size) (hmx : w.cell? ⟨0, 0, none⟩ = some (.int .i64 m)) :
    Calls Tryz.prog 74 #[v, .string sep] w fun e w' => (∃ (word : ByteArray) (v' : Value) (ok : Bool), e = .returned (.tuple #[.string word, v', .bool ok]) ∧ WordIs w' B (cutS sep.data.toList t) word v' ok ∧ word.size ≤ t.length) ∧ Below w.heap.size w w' := by
  obtain ⟨a, c, rfl, hy, hc1, hc2, hc3, hc4⟩ := h
  have hcv := Lib.run_convert_string_bytes (P := Tryz.prog) w 9 22 5 sep Tryz.underlying9 Tryz.underlying22 Tryz.underlying5
  have hbw : Below w.heap.size w (Lib.bytesWorld w 5 sep) := ⟨rfl, rfl, rfl, by rw [Lib.bytesWorld_size]; omega, fun k hk => Lib.bytesWorld_at_old w 5 sep k hk⟩
  have hys : Byt (Lib.bytesWorld w 5 sep) (w.heap.size + 1) (some ⟨w.heap.size, 0, none⟩) sep.data.toList := fun _ =>
    ⟨w.heap.size, 0, rfl, Nat.lt_succ_self _, fun j hj => by
      have e : sep.data.toList.length = sep.size := Array.length_toList
      rw [Nat.zero_add, Lib.bytesWorld_cell w 5 sep j (by omega)]
      simp [List.getD, List.getElem?_eq_getElem hj]⟩
  have hy1 := hy.below hbw hB
  have es : sep.data.toList.length = sep.size := Array.length_toList
  have hin2 := bytesIn_of hys
  rw [es] at hin2
  have hC := Tryz.bytes_Cut_all a (some ⟨w.heap.size, 0, none⟩) t.length c sep.size (grownCap w sep.size 0 5) (numsOf t) (numsOf sep.data.toList) m (Lib.bytesWorld w 5 sep) (numsOf_length _) (by rw [numsOf_length, es]) (numsOf_range _) (numsOf_range _) (bytesIn_of hy1) hin2 hc3 hc1 (by omega) (by omega) ((hbw.cell (p := ⟨0, 0, none⟩) h0).trans hmx)
  rw [numsOf_bytes, numsOf_bytes] at hC
  have HC := hide hC
  have HY1 := hide hy1
  have HBW := hide hbw
  clear hC hmx h0 hy hys hin2 hy1 hbw
  unfold maxLen at hc2
  unfold Lib.cutV at HC
  by_cases hi : 0 ≤ Lib.index t sep.data.toList
  · have hr := Lib.index_room t sep.data.toList hi
    obtain ⟨i, hie⟩ := Int.eq_ofNat_of_zero_le hi
    have hcut : Hid (cutS sep.data.toList t = some (t.take i, t.drop (i + sep.size))) := by
      show cutS _ t = _
      unfold cutS
      rw [if_pos hi, hie, es]
      rfl
    rw [if_pos hi, hie] at HC
    rw [hie, es] at hr
    have hil : i + sep.size ≤ t.length := by omega
    obtain ⟨b, o, ha, hb, hcc⟩ := HY1.out (by omega)
    subst ha
    clear hcc hi hie hr
    rw [show ((i : Int).toNat) = i from Int.toNat_natCast i] at HC
    have hfrom : Lib.fromV (some ⟨b, o, none⟩) t.length c (i + sep.size) = .slice (if c = i + sep.size then some ⟨b, o, none⟩ else some ⟨b, o + (i + sep.size), none⟩) (t.length - (i + sep.size)) (c - (i + sep.size)) := by
      unfold Lib.fromV
      have hadd : (⟨b, o, none⟩ : Addr).add (i + sep.size) = ⟨b, o + (i + sep.size), none⟩ := by unfold Addr.add; split <;> simp_all
      simp [hadd]
    rw [hfrom] at HC
    obtain ⟨v', hv'⟩ : ∃ v', Value.slice (if c = i + sep.size then some (⟨b, o, none⟩ : Addr) else some ⟨b, o + (i + sep.size), none⟩) (t.length - (i + sep.size)) (c - (i + sep.size)) = v' := ⟨_, rfl⟩
    have HR : Hid (∀ W, Below w.heap.size w W → Byt W B (some ⟨b, o, none⟩) t → Rst W B v' (t.drop (i + sep.size))) := fun W _ hyW => by
      refine ⟨_, c - (i + sep.size), by rw [List.length_drop]; exact hv'.symm, ?_, by rw [List.length_drop]; omega, by unfold maxLen; omega, fun e => ?_, fun x e => ?_⟩
      · by_cases hce : c = i + sep.size
        · have : t.drop (i + sep.size) = [] := List.drop_of_length_le (by omega)
          rw [this]; exact Byt.nil _ _ _
        · rw [if_neg hce]; exact hyW.drop (i + sep.size)
      · split at e <;> cases e
      · split at e <;> (cases e; rfl)
    rw [hv'] at HC
    have hshape : ∃ a2 n2 c2, v' = .slice a2 n2 c2 := ⟨_, _, _, hv'.symm⟩
    obtain ⟨a2, n2, c2, rfl⟩ := hshape
    clear hv' hfrom
    go_enter Tryz.func74, Tryz.ntmps74
    go_wp2_with fail
    refine HC.out.mono ?_
    rintro e w1 ⟨rfl, q, rfl⟩
    have B1 : Hid (Below w.heap.size w ((Lib.bytesWorld w 5 sep).drewN q)) := below_drewN HBW.out q
    have Y1 : Hid (Byt ((Lib.bytesWorld w 5 sep).drewN q) B (some ⟨b, o, none⟩) t) := HY1.out
    clear HC hcv HY1 HBW
    generalize (Lib.bytesWorld w 5 sep).drewN q = w1 at *
    have hcw := conv_byt (Y1.out.take i) i c (by rw [List.length_take]; omega)
    go_wp2
    refine bodyPost_ret (v := .tuple #[.string ⟨(t.take i).toArray⟩, .slice a2 n2 c2, .bool true]) (by simp [results, Tryz.results74, go_sem]) rfl ?_
    rw [hcut.out]
    exact ⟨⟨_, _, _, rfl, ⟨rfl, rfl, HR.out w1 B1.out Y1.out⟩, by show (t.take i).toArray.size ≤ _; rw [List.size_toArray, List.length_take]; omega⟩, B1.out⟩
  · have hcut : Hid (cutS sep.data.toList t = none) := by
      show cutS _ t = _
      unfold cutS
      rw [if_neg hi]
    rw [if_neg hi] at HC
    clear hi
    go_enter Tryz.func74, Tryz.ntmps74
    go_wp2_with fail
    refine HC.out.mono ?_
    rintro e w1 ⟨rfl, q, rfl⟩
    have B1 : Hid (Below w.heap.size w ((Lib.bytesWorld w 5 sep).drewN q)) := below_drewN HBW.out q
    have Y1 : Hid (Byt ((Lib.bytesWorld w 5 sep).drewN q) B a t) := HY1.out
    clear HC hcv HY1 HBW
    generalize (Lib.bytesWorld w 5 sep).drewN q = w1 at *
    have hcw := conv_byt Y1.out t.length c rfl
    go_wp2
    refine bodyPost_ret (v := .tuple #[.string ⟨t.toArray⟩, .slice none 0 0, .bool false]) (by simp [results, Tryz.results74, go_sem]) rfl ?_
    rw [hcut.out]
    exact ⟨⟨_, _, _, rfl, ⟨rfl, rfl⟩, by show t.toArray.size ≤ _; rw [List.size_toArray]; omega⟩, B1.out⟩
end Go.Proofs.YtkhnkockdfmkgabGreatDoor
namespace Go.Proofs.YtkhnkockdfmkgabGreatDoor
open Go.RowKit M
set_option linter.unusedVariables false

theorem set_heap {w : World} {N : Nat} {cs : Array Value} {t : TypeId} (h : w.heap[N]? = some (.cells cs t)) (k : Nat) (v : Value) : (w.setCell ⟨N, k, none⟩ v).heap[N]? = some (.cells (cs.setIfInBounds k v) t) := by
  rw [setCell_eq_setRow w N k cs t _ v h]
  exact setRow_heap w N cs _ t _ h
theorem set_other {w : World} {N M k : Nat} {o : Obj} (h : w.heap[M]? = some o) (hne : M ≠ N) (v : Value) : (w.setCell ⟨N, k, none⟩ v).heap[M]? = some o := by
  have hb : ((Below.refl (M + 1) w).block M (Nat.lt_succ_self _)) = rfl := rfl
  rcases Nat.lt_or_gt_of_ne hne with hlt | hgt
  · exact (((Below.refl (M + 1) w).setCell (p := ⟨N, k, none⟩) hlt v).block M (Nat.lt_succ_self _)).trans h
  · show (w.heap.modify N _)[M]? = _
    rw [Array.getElem?_modify]
    simp [hne.symm, h]
end Go.Proofs.YtkhnkockdfmkgabGreatDoor
namespace Go.Proofs.YtkhnkockdfmkgabGreatDoor
open Go.RowKit M
set_option linter.unusedVariables false

theorem reqB_m {r : Rq} (h : methB r.m = false) : reqB r = false := by simp [reqB, h]
theorem reqB_p {r : Rq} (h : targB r.p = false) : reqB r = false := by simp [reqB, h]
theorem reqB_h {r : Rq} (h : hdsB r.hs = false) : reqB r = false := by simp [reqB, h]
theorem reqB_b {r : Rq} (h1 : methB r.m = true) (h2 : targB r.p = true) (h3 : hdsB r.hs = true) : reqB r = decide ((r.b.size : Int) ≤ 200) := by
  by_cases e : r.b.size ≤ 200
  · have e2 : (r.b.size : Int) ≤ 200 := by omega
    simp [reqB, h1, h2, h3, e, e2]
  · have e2 : ¬ (r.b.size : Int) ≤ 200 := by omega
    simp [reqB, h1, h2, h3, e, e2]
end Go.Proofs.YtkhnkockdfmkgabGreatDoor
namespace Go.Proofs.YtkhnkockdfmkgabGreatDoor

theorem ret_bool {a b : Bool} (h : a = b) : Ending.returned (.bool a) = .returned (.bool b) := by rw [h]
end Go.Proofs.YtkhnkockdfmkgabGreatDoor
namespace Go.Proofs.YtkhnkockdfmkgabGreatDoor
open Go.RowKit M

set_option maxHeartbeats 400000 in
theorem isOf_any (c k : Int) (w : World) :
    Calls Tryz.prog 101 #[.int .u8 c, .int .i64 k] w fun e w' => e = .returned (.bool (isB c k)) ∧ w' = w := by
  go_enter Tryz.func101, Tryz.ntmps101
  go_wp2
  all_goals
    go_ret
    refine ⟨ret_bool ?_, rfl⟩
    go_light
    unfold isB
    simp_all
    try omega

set_option maxHeartbeats 400000 in
theorem isOneOf_any (c : Int) (ks : List Int) (n b o cap : Nat) (w : World) (hn : ks.length = n) (hl : ks.length ≤ maxLen)
    (hc : ∀ i, i < ks.length → w.cell? ⟨b, o + i, none⟩ = some (.int .i64 (ks.getD i 0))) :
    Calls Tryz.prog 93 #[.int .u8 c, .slice (some ⟨b, o, none⟩) n cap] w fun e w' => e = .returned (.bool (anyB c ks)) ∧ w' = w := by
  subst hn
  unfold maxLen at hl
  go_enter Tryz.func93, Tryz.ntmps93
  go_wp2
  go_loop [9] (fun i => ∃ k : Nat, k ≤ ks.length ∧ i = .int .i64 k ∧ anyB c (ks.take k) = false) (fun i => ks.length - (intOf i).toNat)
  case atStart => exact ⟨0, Nat.zero_le _, rfl, rfl⟩
  case round =>
    obtain ⟨k, hk, rfl, hn⟩ := hrel
    have HN : Hid (anyB c (ks.take k) = false) := hn; clear hn
    by_cases hlt : k < ks.length
    · have hcx := hc k hlt
      go_wp2_with (go_at_call 101; refine (isOf_any _ _ _).mono ?_; rintro e w' ⟨rfl, rfl⟩)
      · go_ret
        exact ⟨ret_bool (by rw [anyB_of c ks k hlt (by assumption)]), rfl⟩
      · go_round
        case rel => exact ⟨k + 1, by omega, by go_num, anyB_snoc c ks k hlt HN.out (by assumption)⟩
        case measure => simp [intOf]; omega
    · go_wp2
      go_ret
      exact ⟨ret_bool (by rw [← HN.out, List.take_of_length_le (by omega)]), rfl⟩
theorem cells1 (w : World) (a : Int) (T : TypeId) : ∀ i, i < [a].length → (w.alloc (Obj.cells #[.int .i64 a] T)).cell? ⟨w.heap.size, 0 + i, none⟩ = some (.int .i64 ([a].getD i 0)) := by
  intro i hi
  match i, hi with
  | 0, _ => simp

theorem cells3 (w : World) (n : Nat) (a b c : Int) (T : TypeId) (hn : w.heap.size = n) : ∀ i, i < [a, b, c].length → (w.alloc (Obj.cells #[.int .i64 a, .int .i64 b, .int .i64 c] T)).cell? ⟨n, 0 + i, none⟩ = some (.int .i64 ([a, b, c].getD i 0)) := by
  subst hn
  intro i hi
  match i, hi with
  | 0, _ => simp
  | 1, _ => simp
  | 2, _ => simp
end Go.Proofs.YtkhnkockdfmkgabGreatDoor
namespace Go.Proofs.YtkhnkockdfmkgabGreatDoor
open Go.RowKit M

set_option maxHeartbeats 400000 in
theorem l1In_any (x a b : Int) (w : World) :
    Calls Tryz.prog 45 #[.int .i64 x, .int .i64 a, .int .i64 b] w fun e w' => e = .returned (.bool (inB x a b)) ∧ w' = w := by
  go_enter Tryz.func45, Tryz.ntmps45
  go_wp2
  all_goals
    go_ret
    refine ⟨ret_bool ?_, rfl⟩
    go_light
    unfold inB
    simp_all
    try omega

theorem wrap64_u8 (c : UInt8) : wrap64 (c.toNat : Int) = c.toNat := by
  have := c.toNat_lt
  unfold wrap64
  omega
end Go.Proofs.YtkhnkockdfmkgabGreatDoor
namespace Go.Proofs.YtkhnkockdfmkgabGreatDoor
open Go.RowKit M

set_option maxHeartbeats 400000 in
theorem l1Large_any (c : UInt8) (w : World) :
    Calls Tryz.prog 62 #[.int .u8 c.toNat] w fun e w' => e = .returned (.bool (isB c.toNat 3)) ∧ w' = w := by
  go_enter Tryz.func62, Tryz.ntmps62
  go_wp2_with (go_at_call 45; refine (l1In_any _ _ _ _).mono ?_; rintro e w' ⟨rfl, rfl⟩; rw [wrap64_u8, inB_large])
  go_ret
  exact ⟨rfl, rfl⟩
end Go.Proofs.YtkhnkockdfmkgabGreatDoor
namespace Go.Proofs.YtkhnkockdfmkgabGreatDoor
open Go.RowKit M

set_option maxHeartbeats 400000 in
theorem specPlain_any (s : ByteArray) (w : World) (hs : s.size ≤ maxLen) :
    Calls Tryz.prog 66 #[.string s] w fun e w' => e = .returned (.bool (allB s.data.toList [0])) ∧ w' = w := by
  unfold maxLen at hs
  go_enter Tryz.func66, Tryz.ntmps66
  go_wp2
  go_loop [3] (fun i => ∃ k : Nat, k ≤ s.size ∧ i = .int .i64 k ∧ allB (s.data.toList.take k) [0] = true) (fun i => s.size - (intOf i).toNat)
  case atStart => exact ⟨0, Nat.zero_le _, rfl, rfl⟩
  case round =>
    obtain ⟨k, hk, rfl, hn⟩ := hrel
    have HN : Hid (allB (s.data.toList.take k) [0] = true) := hn; clear hn
    by_cases hlt : k < s.size
    · go_wp2_with (go_at_call 45; refine (l1In_any _ _ _ _).mono ?_; rintro e w' ⟨rfl, rfl⟩; rw [wrap64_u8, inB_plain])
      · go_ret
        exact ⟨ret_bool (by rw [allB_not s [0] k hlt (by assumption)]), rfl⟩
      · go_round
        case rel => exact ⟨k + 1, by omega, by go_num, allB_snoc s [0] k hlt HN.out (by assumption)⟩
        case measure => simp [intOf]; omega
    · go_wp2
      go_ret
      exact ⟨ret_bool (by rw [← HN.out, take_all s k hlt]), rfl⟩

end Go.Proofs.YtkhnkockdfmkgabGreatDoor
namespace Go.Proofs.YtkhnkockdfmkgabGreatDoor
open Go.RowKit M

def strLen : Value → Nat | .string t => t.size | _ => 0

set_option maxHeartbeats 400000 in
theorem l1Blank_any (c : UInt8) (w : World) :
    Calls Tryz.prog 63 #[.int .u8 c.toNat] w fun e w' => e = .returned (.bool (bl c)) ∧ w' = w := by
  go_enter Tryz.func63, Tryz.ntmps63
  go_wp2
  all_goals
    go_ret
    refine ⟨ret_bool ?_, rfl⟩
    go_light
    unfold bl isB
    simp_all

set_option maxHeartbeats 1000000 in
theorem specTrim_any (s : ByteArray) (w : World) (hs : s.size ≤ maxLen) :
    Calls Tryz.prog 56 #[.string s] w fun e w' => (∃ t : ByteArray, e = .returned (.string t) ∧ t.data.toList = trimL s.data.toList) ∧ w' = w := by
  unfold maxLen at hs
  go_enter Tryz.func56, Tryz.ntmps56
  go_wp2
  go_loop [0] (fun v => ∃ t : ByteArray, v = .string t ∧ t.size ≤ s.size ∧ trimL t.data.toList = trimL s.data.toList) (fun v => strLen v)
  case atStart => exact ⟨s, rfl, Nat.le_refl _, rfl⟩
  case round =>
    obtain ⟨t, rfl, ht, hn⟩ := hrel
    have HN : Hid (trimL t.data.toList = trimL s.data.toList) := hn; clear hn
    by_cases h0 : 0 < t.size
    · cases hb : bl t[0]
      · go_wp2_with (go_at_call 63; refine (l1Blank_any _ _).mono ?_; rintro e w' ⟨rfl, rfl⟩; rw [hb])
        go_loop [0] (fun v => ∃ u : ByteArray, v = .string u ∧ u.size ≤ s.size ∧ trimL u.data.toList = trimL s.data.toList ∧ ∀ h : 0 < u.size, bl u[0] = false) (fun v => strLen v)
        case atStart => exact ⟨t, rfl, ht, HN.out, fun _ => hb⟩
        case round =>
          clear hb
          obtain ⟨u, rfl, hu, hn, hf⟩ := hrel
          have HU : Hid (trimL u.data.toList = trimL s.data.toList) := hn; clear hn
          have HF : Hid (∀ h : 0 < u.size, bl u[0] = false) := hf; clear hf
          by_cases h1 : 0 < u.size
          · cases hb1 : bl u[u.size - 1]
            · go_wp2_with (go_at_call 63; refine (l1Blank_any _ _).mono ?_; rintro e w' ⟨rfl, rfl⟩; rw [hb1])
              go_ret
              exact ⟨⟨u, rfl, step_done u _ h1 (HF.out h1) hb1 HU.out⟩, rfl⟩
            · go_wp2_with (go_at_call 63; refine (l1Blank_any _ _).mono ?_; rintro e w' ⟨rfl, rfl⟩; rw [hb1])
              go_round
              case rel => exact ⟨_, rfl, by rw [size_extract _ _ _ (by omega)]; omega, step_back u _ h1 hb1 HU.out, step_back_head u h1 (HF.out h1)⟩
              case measure => simp only [strLen]; rw [size_extract _ _ _ (by omega)]; omega
          · go_wp2
            go_ret
            exact ⟨⟨u, rfl, step_none u _ h1 HU.out⟩, rfl⟩
      · go_wp2_with (go_at_call 63; refine (l1Blank_any _ _).mono ?_; rintro e w' ⟨rfl, rfl⟩; rw [hb])
        go_round
        case rel => exact ⟨_, rfl, by rw [size_extract _ _ _ (Nat.le_refl _)]; omega, step_front t _ h0 hb HN.out⟩
        case measure => simp only [strLen]; rw [size_extract _ _ _ (Nat.le_refl _)]; omega
    · go_wp2
      go_loop [0] (fun v => v = .string t) (fun v => strLen v)
      case atStart => rfl
      case round =>
        subst hrel
        go_wp2
        go_ret
        exact ⟨⟨t, rfl, step_none t _ h0 HN.out⟩, rfl⟩
end Go.Proofs.YtkhnkockdfmkgabGreatDoor
namespace Go.Proofs.YtkhnkockdfmkgabGreatDoor
open Go.RowKit M
set_option linter.unusedVariables false

theorem trim_same {t s : ByteArray} (h : t.data.toList = trimL s.data.toList) : (t.toList == s.toList) = decide (trimL s.data.toList = s.data.toList) := by
  rw [ByteArray.toList_eq, ByteArray.toList_eq, h]
  by_cases e : trimL s.data.toList = s.data.toList
  · simp [e]
  · simp [e]

set_option maxHeartbeats 400000 in
theorem l3Val_any (s : ByteArray) (w : World) (hs : s.size ≤ maxLen) :
    Calls Tryz.prog 58 #[.string s] w fun e w' => e = .returned (.bool (valB s)) ∧ w' = w := by
  have hs' := hs
  unfold maxLen at hs'
  by_cases h1 : s.size ≤ 60
  · have h1' : (s.size : Int) ≤ 60 := by omega
    cases h2 : allB s.data.toList [0]
    · have HE : Hid (valB s = false) := by show valB s = false; simp [valB, h2]
      go_enter Tryz.func58, Tryz.ntmps58
      go_wp2_with (go_at_call 66; refine (specPlain_any s _ hs).mono ?_; rintro e w' ⟨rfl, rfl⟩; rw [h2])
      go_ret
      exact ⟨ret_bool HE.out.symm, rfl⟩
    · have HE : Hid (valB s = decide (trimL s.data.toList = s.data.toList)) := by show valB s = _; simp [valB, h2, h1]
      go_enter Tryz.func58, Tryz.ntmps58
      go_wp2_with (first | (go_at_call 66; refine (specPlain_any s _ hs).mono ?_; rintro e w' ⟨rfl, rfl⟩; rw [h2]) | (go_at_call 56; refine (specTrim_any s _ hs).mono ?_; rintro e w' ⟨⟨t, rfl, ht⟩, rfl⟩; have HT := hide ht; clear ht))
      go_ret
      exact ⟨ret_bool (by rw [HE.out, ← trim_same HT.out]), rfl⟩
  · have h1' : ¬ (s.size : Int) ≤ 60 := by omega
    have HE : Hid (valB s = false) := by show valB s = false; simp [valB, h1]
    go_enter Tryz.func58, Tryz.ntmps58
    go_wp2
    go_ret
    exact ⟨ret_bool HE.out.symm, rfl⟩
end Go.Proofs.YtkhnkockdfmkgabGreatDoor
