/-
  What is read of a wire: requests one behind the other; however the bytes were cut.
  What GetReq does with no bytes, of a slice that is nil.
  Rows of requests that the call owns: one more behind, and what they hold; each request's heads lie in a row of its own.
  What an open wire does: bytes that come, requests that are read of them.
  What an open wire does: one request is taken of its bytes.
  Plain facts on what stands ahead of a body: where it ends, which lines it has: no program in sight.
  Plain facts on the bytes of an answer: no program in sight.
  Plain facts: a request comes back of its bytes: no program in sight.
  What an open wire does: requests are read as long as there are any.
  What Feed and FeedAll do.
  What the program's Feed and FeedAll do.
  Slices of texts: what they hold, and that it stays.
-/
import Derived.Test.YtanebchmeaomgaaGreatDoorParseHex
import Derived.Test.YtanebchmeaomgaaGreatDoorGetReq
import Derived.Test.YtanebchmeaomgaaGreatDoorCut
import Derived.Maps.AppendAt
import Derived.Test.YtanebchmeaomgaaGreatDoorMathGet
import Derived.Deep.RegionHeld3
import Derived.Test.YtanebchmeaomgaaGreatDoorSpecSm
import Derived.Test.YtanebchmeaomgaaGreatDoorLower
import Derived.Test.YtanebchmeaomgaaGreatDoorMathBack
import Derived.Test.YtanebchmeaomgaaGreatDoorPlain
import Derived.Test.YtanebchmeaomgaaGreatDoorMathCutB
import Derived.Deep.RegionLaw
import Derived.Lib.SliceRun
import Derived.Test.YtanebchmeaomgaaGreatDoorRows
import Derived.WalkKit
import Derived.WalkSpells
import Derived.WalkLawsBesides
import Derived.Deep.Light
import Derived.Deep.QuietTactic
import Derived.Deep.OwnRows
namespace Go.Proofs.YtanebchmeaomgaaGreatDoor.M
set_option linter.unusedVariables false

theorem getR_nil : getR [] = (zeroR, 0, 1) := by
  rw [getR_no (show heL [] < 0 by decide)]; rfl
theorem getR_pos {l : List UInt8} (h : (getR l).2.2 = 0) : 0 < (getR l).2.1 := by
  rcases Nat.eq_zero_or_pos (getR l).2.1 with e | e
  · have h1 := getR_here (i := 0) h (by omega)
    rw [List.take_zero, getR_nil] at h1
    rw [← h1] at h
    exact absurd h (by decide)
  · exact e

/-- What is read of bytes: requests, what is left, and why nothing more is read (0: there may be more). -/
def drainL (l : List UInt8) : List Rq × List UInt8 × Int :=
  if h : (getR l).2.2 = 0 then ((getR l).1 :: (drainL (l.drop (getR l).2.1)).1, (drainL (l.drop (getR l).2.1)).2)
  else if (getR l).2.2 = 1 then ([], l, 0) else ([], [], (getR l).2.2)
termination_by l.length
decreasing_by
  all_goals
    have h1 := getR_pos h
    have h2 := (getR_ok h).2
    rw [List.length_drop]
    omega
theorem drain_good {l : List UInt8} (h : (getR l).2.2 = 0) : drainL l = ((getR l).1 :: (drainL (l.drop (getR l).2.1)).1, (drainL (l.drop (getR l).2.1)).2) := by
  rw [drainL, dif_pos h]
theorem drain_more {l : List UInt8} (h : (getR l).2.2 = 1) : drainL l = ([], l, 0) := by
  rw [drainL, dif_neg (by rw [h]; decide), if_pos h]
theorem drain_bad {l : List UInt8} (h : (getR l).2.2 ≠ 0) (h1 : (getR l).2.2 ≠ 1) : drainL l = ([], [], (getR l).2.2) := by
  rw [drainL, dif_neg h, if_neg h1]
theorem drain_nil : drainL [] = ([], [], 0) := drain_more (by rw [getR_nil])

/-- All that is read of it is right; there is no more of it than bytes; what is left is no longer. -/
theorem drain_all (n : Nat) : ∀ l : List UInt8, l.length ≤ n → (∀ r ∈ (drainL l).1, reqB r = true) ∧ (drainL l).1.length ≤ l.length ∧ (drainL l).2.1.length ≤ l.length := by
  induction n with
  | zero =>
    intro l hl
    obtain rfl : l = [] := List.length_eq_zero_iff.1 (by omega)
    rw [drain_nil]
    exact ⟨(fun r h => by cases h), Nat.le_refl _, Nat.le_refl _⟩
  | succ n ih =>
    intro l hl
    by_cases h : (getR l).2.2 = 0
    · have h1 := getR_pos h
      have h2 := (getR_ok h).2
      obtain ⟨i1, i2, i3⟩ := ih (l.drop (getR l).2.1) (by rw [List.length_drop]; omega)
      rw [List.length_drop] at i2 i3
      rw [drain_good h]
      refine ⟨fun r hr => ?_, by simp only [List.length_cons]; omega, by show (drainL (l.drop (getR l).2.1)).2.1.length ≤ _; omega⟩
      rcases List.mem_cons.1 hr with rfl | hr
      · exact (getR_ok h).1
      · exact i1 r hr
    · by_cases h1 : (getR l).2.2 = 1
      · rw [drain_more h1]
        exact ⟨(fun r h => by cases h), Nat.zero_le _, Nat.le_refl _⟩
      · rw [drain_bad h h1]
        exact ⟨(fun r h => by cases h), Nat.zero_le _, Nat.zero_le _⟩

/-- What a wire is behind it, and what was read. -/
def feedM (buf : List UInt8) (bad : Int) (b : List UInt8) : List Rq × List UInt8 × Int :=
  if bad = 0 then drainL (buf ++ b) else ([], buf, bad)
theorem feedM_bad {buf b : List UInt8} {bad : Int} (h : bad ≠ 0) : feedM buf bad b = ([], buf, bad) := by unfold feedM; rw [if_neg h]
theorem feedM_good (buf b : List UInt8) : feedM buf 0 b = drainL (buf ++ b) := by unfold feedM; rw [if_pos rfl]
theorem feedM_all (buf : List UInt8) (bad : Int) (b : List UInt8) : (∀ r ∈ (feedM buf bad b).1, reqB r = true) ∧ (feedM buf bad b).1.length ≤ buf.length + b.length ∧ (feedM buf bad b).2.1.length ≤ buf.length + b.length := by
  by_cases h : bad = 0
  · subst h
    rw [feedM_good]
    have := drain_all _ (buf ++ b) (Nat.le_refl _)
    rwa [List.length_append] at this
  · rw [feedM_bad h]
    exact ⟨(fun r h => by cases h), Nat.zero_le _, Nat.le_add_right _ _⟩
/-- All pieces, one behind the other. -/
def feedsM : List (List UInt8) → List UInt8 → Int → List Rq × List UInt8 × Int
  | [], buf, bad => ([], buf, bad)
  | b :: ls, buf, bad => ((feedM buf bad b).1 ++ (feedsM ls (feedM buf bad b).2.1 (feedM buf bad b).2.2).1, (feedsM ls (feedM buf bad b).2.1 (feedM buf bad b).2.2).2)

theorem feedsM_snoc : ∀ (ls : List (List UInt8)) (b buf : List UInt8) (bad : Int), feedsM (ls ++ [b]) buf bad = ((feedsM ls buf bad).1 ++ (feedM (feedsM ls buf bad).2.1 (feedsM ls buf bad).2.2 b).1, (feedM (feedsM ls buf bad).2.1 (feedsM ls buf bad).2.2 b).2)
  | [], b, buf, bad => by simp [feedsM]
  | x :: ls, b, buf, bad => by
    have ih := feedsM_snoc ls b (feedM buf bad x).2.1 (feedM buf bad x).2.2
    show ((feedM buf bad x).1 ++ (feedsM (ls ++ [b]) (feedM buf bad x).2.1 (feedM buf bad x).2.2).1, (feedsM (ls ++ [b]) (feedM buf bad x).2.1 (feedM buf bad x).2.2).2) = _
    rw [ih]
    show _ = (((feedM buf bad x).1 ++ (feedsM ls (feedM buf bad x).2.1 (feedM buf bad x).2.2).1) ++ _, _)
    rw [List.append_assoc]
    rfl
theorem drain_count (n : Nat) : ∀ l : List UInt8, l.length ≤ n → (drainL l).1.length + (drainL l).2.1.length ≤ l.length := by
  induction n with
  | zero =>
    intro l hl
    obtain rfl : l = [] := List.length_eq_zero_iff.1 (by omega)
    rw [drain_nil]
    exact Nat.le_refl _
  | succ n ih =>
    intro l hl
    by_cases h : (getR l).2.2 = 0
    · have h1 := getR_pos h
      have h2 := (getR_ok h).2
      have i1 := ih (l.drop (getR l).2.1) (by rw [List.length_drop]; omega)
      rw [List.length_drop] at i1
      rw [drain_good h]
      simp only [List.length_cons]
      omega
    · by_cases h1 : (getR l).2.2 = 1
      · rw [drain_more h1]; simp
      · rw [drain_bad h h1]; simp
theorem feedM_count (buf : List UInt8) (bad : Int) (b : List UInt8) : (feedM buf bad b).1.length + (feedM buf bad b).2.1.length ≤ buf.length + b.length := by
  by_cases h : bad = 0
  · subst h
    rw [feedM_good]
    have := drain_count _ (buf ++ b) (Nat.le_refl _)
    rwa [List.length_append] at this
  · rw [feedM_bad h]
    simp
theorem feedsM_all : ∀ (ls : List (List UInt8)) (buf : List UInt8) (bad : Int), (∀ r ∈ (feedsM ls buf bad).1, reqB r = true) ∧ (feedsM ls buf bad).1.length + (feedsM ls buf bad).2.1.length ≤ buf.length + ls.flatten.length
  | [], buf, bad => ⟨(fun r h => by cases h), by simp [feedsM]⟩
  | b :: ls, buf, bad => by
    obtain ⟨i1, i2⟩ := feedsM_all ls (feedM buf bad b).2.1 (feedM buf bad b).2.2
    have h1 := (feedM_all buf bad b).1
    have h2 := feedM_count buf bad b
    refine ⟨fun r hr => ?_, ?_⟩
    · rcases List.mem_append.1 hr with hr | hr
      · exact h1 r hr
      · exact i1 r hr
    · show ((feedM buf bad b).1 ++ (feedsM ls (feedM buf bad b).2.1 (feedM buf bad b).2.2).1).length + (feedsM ls (feedM buf bad b).2.1 (feedM buf bad b).2.2).2.1.length ≤ _
      rw [List.length_append, List.flatten_cons, List.length_append]
      omega

theorem getR_more_of {l : List UInt8} (m : List UInt8) (h : (getR l).2.2 ≠ 1) : getR (l ++ m) = getR l := by
  have e : (l ++ m).take l.length = l := List.take_left
  have := getR_stay (l := l ++ m) (i := l.length) (by rw [e]; exact h)
  rwa [e] at this
theorem drain_append (n : Nat) : ∀ (l m : List UInt8), l.length ≤ n → drainL (l ++ m) = ((drainL l).1 ++ (feedM (drainL l).2.1 (drainL l).2.2 m).1, (feedM (drainL l).2.1 (drainL l).2.2 m).2) := by
  induction n with
  | zero =>
    intro l m hl
    obtain rfl : l = [] := List.length_eq_zero_iff.1 (by omega)
    rw [drain_nil]
    show _ = (([] : List Rq) ++ (feedM [] 0 m).1, (feedM [] 0 m).2)
    rw [feedM_good]
    rfl
  | succ n ih =>
    intro l m hl
    by_cases h : (getR l).2.2 = 0
    · have h1 := getR_pos h
      have h2 := (getR_ok h).2
      have e := getR_more_of m (by rw [h]; decide)
      have i1 := ih (l.drop (getR l).2.1) m (by rw [List.length_drop]; omega)
      rw [drain_good (by rw [e]; exact h), e, List.drop_append_of_le_length h2, i1, drain_good h]
      rfl
    · by_cases h1 : (getR l).2.2 = 1
      · rw [drain_more h1]
        show _ = (([] : List Rq) ++ (feedM l 0 m).1, (feedM l 0 m).2)
        rw [feedM_good]
        rfl
      · have e := getR_more_of m h1
        rw [drain_bad (by rw [e]; exact h) (by rw [e]; exact h1), e, drain_bad h h1]
        show _ = (([] : List Rq) ++ (feedM [] (getR l).2.2 m).1, (feedM [] (getR l).2.2 m).2)
        rw [feedM_bad h]
        rfl
/-- However bytes are cut, the same requests are read, and the same is left. -/
theorem feedsM_flat : ∀ (ls : List (List UInt8)) (buf : List UInt8), (getR buf).2.2 = 1 → feedsM ls buf 0 = drainL (buf ++ ls.flatten) := by
  suffices H : ∀ (ls : List (List UInt8)) (l : List UInt8), feedsM ls (drainL l).2.1 (drainL l).2.2 = (((feedM (drainL l).2.1 (drainL l).2.2 ls.flatten).1), (feedM (drainL l).2.1 (drainL l).2.2 ls.flatten).2) by
    intro ls buf h
    have := H ls buf
    rw [drain_more h] at this
    rw [this]
    show ((feedM buf 0 _).1, (feedM buf 0 _).2) = _
    rw [feedM_good]
  intro ls
  induction ls with
  | nil =>
    intro l
    have := drain_append l.length l [] (Nat.le_refl _)
    rw [List.append_nil] at this
    show ([], (drainL l).2.1, (drainL l).2.2) = _
    have e1 := congrArg Prod.fst this
    have e2 := congrArg Prod.snd this
    simp only at e1 e2
    have e3 : (feedM (drainL l).2.1 (drainL l).2.2 []).1 = [] := by
      have := congrArg List.length e1
      rw [List.length_append] at this
      exact List.length_eq_zero_iff.1 (by omega)
    rw [List.flatten_nil, e3, ← e2]
  | cons b ls ih =>
    intro l
    have h1 := drain_append l.length l b (Nat.le_refl _)
    have h2 := drain_append l.length l (b ++ ls.flatten) (Nat.le_refl _)
    have h3 := drain_append (l ++ b).length (l ++ b) ls.flatten (Nat.le_refl _)
    have h4 := ih (l ++ b)
    rw [List.append_assoc, h2, h1] at h3
    rw [h1] at h4
    simp only at h3 h4
    have e1 := congrArg Prod.fst h3
    have e2 := congrArg Prod.snd h3
    simp only [List.append_assoc] at e1 e2
    have e1' := List.append_cancel_left e1
    rw [List.flatten_cons]
    show ((feedM (drainL l).2.1 (drainL l).2.2 b).1 ++ (feedsM ls (feedM (drainL l).2.1 (drainL l).2.2 b).2.1 (feedM (drainL l).2.1 (drainL l).2.2 b).2.2).1, (feedsM ls (feedM (drainL l).2.1 (drainL l).2.2 b).2.1 (feedM (drainL l).2.1 (drainL l).2.2 b).2.2).2) = _
    rw [h4, e1', e2]
end Go.Proofs.YtanebchmeaomgaaGreatDoor.M
namespace Go.Proofs.YtanebchmeaomgaaGreatDoor
open Go.RowKit M
set_option linter.unusedVariables false

set_option maxRecDepth 100000 in
set_option maxHeartbeats 400000 in
theorem index_nil (w : World) (g : Nat) :
    Calls Tryz.prog 59 #[.slice none 0 0, .slice (some ⟨g, 0, none⟩) 4 4] w fun e w' => e = .returned (.int .i64 (-1)) ∧ w' = w := by
  go_enter Tryz.func59, Tryz.ntmps59
  go_wp2
  go_ret
  exact ⟨rfl, rfl⟩
set_option maxRecDepth 100000 in
set_option maxHeartbeats 400000 in
theorem headEnd_nil (w : World) :
    Calls Tryz.prog 22 #[.slice none 0 0] w fun e w' => e = .returned (.int .i64 (-1)) ∧ Below w.heap.size w w' := by
  have kc := fun (w : World) (C : Array Value) (n c : Nat) => Lib.run_convert_bytes_const w 22 5 C n c Tryz.underlying22 Tryz.underlying5
  go_enter Tryz.func22, Tryz.ntmps22
  go_wp2_with fail
  refine (index_nil _ _).mono ?_
  rintro e w1 ⟨rfl, hw⟩
  have b1 : Below w.heap.size w w1 := by rw [hw]; exact (Below.refl _ _).alloc (Nat.le_refl _) _
  clear hw
  go_wp2
  go_ret
  exact ⟨rfl, b1⟩
set_option maxRecDepth 100000 in
set_option maxHeartbeats 1000000 in
theorem getReq_nil (w : World) :
    Calls Tryz.prog 160 #[.slice none 0 0] w fun e w' => GotIs w' w.heap.size (getR []) e ∧ Below w.heap.size w w' := by
  obtain ⟨w0, hw0⟩ : ∃ w0, w.alloc (Obj.cells #[.string ⟨#[]⟩, .string ⟨#[]⟩, .slice none 0 0, .string ⟨#[]⟩] 39) = w0 := ⟨_, rfl⟩
  have c0 : Below w.heap.size w w0 := by rw [← hw0]; exact (Below.refl _ _).alloc (Nat.le_refl _) _
  have z0 : ZeroB w.heap.size w0 := by rw [← hw0]; exact heap_alloc_new w _
  have C0 := hide c0
  have Z0 := hide z0
  have HG := hide getR_nil
  clear c0 z0
  go_enter Tryz.func160, Tryz.ntmps160
  go_wp2_with fail
  try rw [hw0]
  refine (headEnd_nil w0).mono ?_
  rintro e w1 ⟨rfl, b1⟩
  have hZ1 := Z0.out.next b1
  have C1 := hide (C0.out.trans (b1.mono C0.out.size))
  obtain ⟨q0, q1, q2, q3, f0, f1, f2, f3⟩ := hZ1.cells
  have HZ1 := hide hZ1
  clear hw0 b1 hZ1
  go_wp2
  refine bodyPost_ret (results_get _ w.heap.size _ _ _ _ _ _ _ rfl rfl rfl (set4_heap HZ1.out _ _ _ _)) rfl ?_
  rw [HG.out]
  exact ⟨GotIs.bad _ _ _, set4_below C1.out (Nat.le_refl _) _ _ _ _⟩
/-- Of bytes of the call's own, perhaps none. -/
theorem getReq_own (B : Nat) (v : Value) (l : List UInt8) (mx : Int) (w : World) (h : OwnO w B v l) (hl : l.length ≤ 4194304) (h0 : 0 < w.heap.size) (hmx : w.cell? ⟨0, 0, none⟩ = some (.int .i64 mx)) :
    Calls Tryz.prog 160 #[v] w fun e w' => GotIs w' w.heap.size (getR l) e ∧ Below w.heap.size w w' := by
  have hs := h.slice
  rcases h with ⟨rfl, rfl⟩ | ⟨g, o, cap, cur, rfl, hB, hg, h1, h2, h3, h4⟩
  · exact getReq_nil w
  · obtain ⟨a, c, e, q1, q2, _, _, q3⟩ := hs
    cases e
    exact getReq_any g o l cap mx w q3 hl q1 q2 h0 hmx
end Go.Proofs.YtanebchmeaomgaaGreatDoor
namespace Go.Proofs.YtanebchmeaomgaaGreatDoor
open Go.RowKit M
set_option linter.unusedVariables false

/-- A request, and the slice of its heads. -/
abbrev Rv := Rq × Value
def rvCells (qs : List Rv) : List Value := qs.flatMap fun q => [.string q.1.m, .string q.1.p, q.2, .string q.1.b]
theorem rvCells_length (qs : List Rv) : (rvCells qs).length = qs.length * 4 := by
  induction qs with
  | nil => rfl
  | cons h r ih => simp only [rvCells, List.flatMap_cons, List.length_append, List.length_cons, List.length_nil] at *; omega
theorem rvCells_append (qs ts : List Rv) : rvCells (qs ++ ts) = rvCells qs ++ rvCells ts := by simp [rvCells]
theorem rvCells_at (qs : List Rv) : ∀ j (hj : j < qs.length), (rvCells qs)[j * 4]? = some (.string qs[j].1.m) ∧ (rvCells qs)[j * 4 + 1]? = some (.string qs[j].1.p) ∧ (rvCells qs)[j * 4 + 2]? = some qs[j].2 ∧ (rvCells qs)[j * 4 + 3]? = some (.string qs[j].1.b) := by
  induction qs with
  | nil => intro j hj; cases hj
  | cons h r ih =>
    intro j hj
    have e : rvCells (h :: r) = .string h.1.m :: .string h.1.p :: h.2 :: .string h.1.b :: rvCells r := rfl
    rw [e]
    cases j with
    | zero => exact ⟨rfl, rfl, rfl, rfl⟩
    | succ j =>
      have h1 := ih j (by simpa using hj)
      have e1 : (j + 1) * 4 = j * 4 + 1 + 1 + 1 + 1 := by omega
      have e2 : (j + 1) * 4 + 1 = j * 4 + 1 + 1 + 1 + 1 + 1 := by omega
      have e3 : (j + 1) * 4 + 2 = j * 4 + 2 + 1 + 1 + 1 + 1 := by omega
      have e4 : (j + 1) * 4 + 3 = j * 4 + 3 + 1 + 1 + 1 + 1 := by omega
      rw [e2, e3, e4, e1]
      simp only [List.getElem?_cons_succ, List.getElem_cons_succ]
      exact h1

theorem infoRq : (Tryz.prog.info? 39).map (fun i => (i.zero, i.size, i.bytes)) = some (some (.agg #[.string ByteArray.empty, .string ByteArray.empty, .slice none 0 0, .string ByteArray.empty]), 4, 72) := by kernel_rfl

/-- A row of requests, and each one's heads, all of the call's own, from B on, each in a block of its own. -/
structure RowsQ (w : World) (B : Nat) (v : Value) (qs : List Rv) : Prop where
  own : w.ownsRow B 39 4 v qs.length (rvCells qs)
  heads : ∀ q ∈ qs, RowsH w B q.2 q.1.hs
  apart : ∀ q ∈ qs, ApartV q.2 v
  pair : qs.Pairwise fun a b => ApartV a.2 b.2
theorem RowsQ.nul (w : World) (B : Nat) : RowsQ w B (.slice none 0 0) [] := ⟨World.ownsRow_nil _ _ _ _, (fun q h => by cases h), (fun q h => by cases h), List.Pairwise.nil⟩
theorem RowsQ.same {w w' : World} {B : Nat} {v : Value} {qs : List Rv} (h : RowsQ w B v qs) (hb : ∀ k, B ≤ k → k < w.heap.size → w'.heap[k]? = w.heap[k]?) : RowsQ w' B v qs := by
  refine ⟨⟨h.own.1, ?_⟩, fun q hq => ?_, h.apart, h.pair⟩
  · rcases h.own.2 with h | ⟨g, cap, cur, e, hB, hh, hr⟩
    · exact .inl h
    · exact .inr ⟨g, cap, cur, e, hB, (hb g hB (Array.getElem?_eq_some_iff.1 hh).1).trans hh, hr⟩
  · have h1 := h.heads q hq
    refine ⟨h1.1, ?_⟩
    rcases h1.2 with h | ⟨g, cap, cur, e, hB, hh, hr⟩
    · exact .inl h
    · exact .inr ⟨g, cap, cur, e, hB, (hb g hB (Array.getElem?_eq_some_iff.1 hh).1).trans hh, hr⟩
theorem RowsQ.next {w w' : World} {B : Nat} {v : Value} {qs : List Rv} (h : RowsQ w B v qs) (hb : Below w.heap.size w w') : RowsQ w' B v qs := h.same (fun k _ hk => hb.block k hk)
theorem RowsQ.base {w : World} {B C : Nat} {v : Value} {qs : List Rv} (h : RowsQ w B v qs) (hC : C ≤ B) : RowsQ w C v qs := by
  refine ⟨⟨h.own.1, ?_⟩, fun q hq => (h.heads q hq).base hC, h.apart, h.pair⟩
  rcases h.own.2 with h | ⟨g, cap, cur, e, hB, hr⟩
  · exact .inl h
  · exact .inr ⟨g, cap, cur, e, Nat.le_trans hC hB, hr⟩
/-- A store into a block below. -/
theorem RowsQ.store {w : World} {B : Nat} {v : Value} {qs : List Rv} (h : RowsQ w B v qs) {N : Nat} (hN : N < B) (o : Nat) (u : Value) : RowsQ (w.setCell ⟨N, o, none⟩ u) B v qs :=
  h.same (fun k hk _ => Below.heap_setCell _ _ _ _ (by show k ≠ N; omega))

theorem RowsH.lt {w : World} {B : Nat} {v : Value} {hs : List Hd} (h : RowsH w B v hs) : ∀ g, v.ownBlock = some g → B ≤ g ∧ g < w.heap.size := fun g hg => World.ownsRow.lt h g hg

theorem run_append_req (w : World) (B : Nat) (v : Value) (qs : List Rv) (ty : TypeId) (hown : RowsQ w B v qs)
    (N : Nat) (q : Rv) (hc0 : w.cell? ⟨N, 0, none⟩ = some (.string q.1.m)) (hc1 : w.cell? ⟨N, 1, none⟩ = some (.string q.1.p)) (hc2 : w.cell? ⟨N, 2, none⟩ = some q.2) (hc3 : w.cell? ⟨N, 3, none⟩ = some (.string q.1.b))
    (hq : RowsH w B q.2 q.1.hs) (hqa : ApartV q.2 v) (hqs : ∀ p ∈ qs, ApartV p.2 q.2) (hlen : qs.length + 1 ≤ 1000000000) (hB : B ≤ w.heap.size) :
    ∃ g cap w', (Builtin.append_ #[28, 28] ty #[v, .slice (some ⟨N, 0, none⟩) 1 1]).run Tryz.prog w = .ok (.slice (some ⟨g, 0, none⟩) (qs.length + 1) cap) w' ∧ RowsQ w' B (.slice (some ⟨g, 0, none⟩) (qs.length + 1) cap) (qs ++ [q]) ∧ w.grownBy w' v.ownBlock ∧ (v.ownBlock = some g ∨ g = w.heap.size) := by
  obtain ⟨i0, hi, hz0, hz1, hz2⟩ := info_parts infoRq
  have hnews : ∀ j u, [Value.string q.1.m, Value.string q.1.p, q.2, Value.string q.1.b][j]? = some u → w.cell? ((⟨N, 0, none⟩ : Addr).add j) = some u := by
    intro j u hj
    have e : ∀ k, (⟨N, 0, none⟩ : Addr).add k = ⟨N, k, none⟩ := fun k => by unfold Addr.add; split <;> simp_all
    rw [e]
    match j, hj with
    | 0, hj => simp at hj; subst hj; exact hc0
    | 1, hj => simp at hj; subst hj; exact hc1
    | 2, hj => simp at hj; subst hj; exact hc2
    | 3, hj => simp at hj; subst hj; exact hc3
  obtain ⟨aq, cq, hvq, _⟩ := RowsH.hds hq
  have hone : ∀ u ∈ [Value.string q.1.m, Value.string q.1.p, q.2, Value.string q.1.b], u.oneCell' = true := by
    intro u hu
    simp only [List.mem_cons, List.not_mem_nil, or_false] at hu
    rcases hu with rfl | rfl | rfl | rfl
    · rfl
    · rfl
    · rw [hvq]; rfl
    · rfl
  obtain ⟨v', w', hrun, ho', hg, _, hwh⟩ := run_append_own_at (P := Tryz.prog) w B 28 ty 39 i0 _ 4 72 Tryz.underlying28 hi hz0 hz1 hz2 rfl (by decide) v qs.length _ hown.own ⟨N, 0, none⟩ 1 1 [.string q.1.m, .string q.1.p, q.2, .string q.1.b] rfl hnews hone (by unfold maxLen; omega) (by omega) hB
  obtain ⟨g, cap, rfl⟩ : ∃ g cap, v' = .slice (some ⟨g, 0, none⟩) (qs.length + 1) cap := by
    rcases ho'.2 with ⟨_, h0⟩ | ⟨g, cap, cur, hv, _⟩
    · omega
    · exact ⟨g, cap, hv⟩
  have hwhere : v.ownBlock = some g ∨ g = w.heap.size := by
    rcases hwh with e | e
    · exact .inl e.symm
    · exact .inr (Option.some.inj e)
  have hap : ∀ u hs, RowsH w B u hs → ApartV u v → ApartV u (.slice (some ⟨g, 0, none⟩) (qs.length + 1) cap) := fun u hs hu ha => (ApartV.grown ha.symm hu hwhere).symm
  have hkp : ∀ u hs, RowsH w B u hs → ApartV u v → RowsH w' B u hs := fun u hs hu ha => RowsH.kept hu ha.symm hg
  refine ⟨g, cap, w', hrun, ⟨?_, ?_, ?_, ?_⟩, hg, hwhere⟩
  · rw [rvCells_append, List.length_append]; exact ho'
  · intro p hp
    rcases List.mem_append.1 hp with hp | hp
    · exact hkp _ _ (hown.heads p hp) (hown.apart p hp)
    · simp at hp; subst hp; exact hkp _ _ hq hqa
  · intro p hp
    rcases List.mem_append.1 hp with hp | hp
    · exact hap _ _ (hown.heads p hp) (hown.apart p hp)
    · simp at hp; subst hp; exact hap _ _ hq hqa
  · rw [List.pairwise_append]
    exact ⟨hown.pair, List.pairwise_singleton _ _, fun p hp q' hq' => by simp at hq'; subst hq'; exact hqs p hp⟩
/-- 'l = append(l, r)'. -/
theorem wp_append_req {w : World} {ops : Array Oper} {rest : List Oper} {o : Oper} {a : Act} {Q : Exit → Act → World → Prop} (hgd : o.guard = none) (s x : Operand)
    (ho : o.op = .call { callee := .builtin .append, args := #[s, x], argTypes := #[28, 28] })
    (B : Nat) (v : Value) (qs : List Rv) (hs : a.eval s = v) (hown : RowsQ w B v qs)
    (N : Nat) (q : Rv) (hx : a.eval x = .slice (some ⟨N, 0, none⟩) 1 1) (hc0 : w.cell? ⟨N, 0, none⟩ = some (.string q.1.m)) (hc1 : w.cell? ⟨N, 1, none⟩ = some (.string q.1.p)) (hc2 : w.cell? ⟨N, 2, none⟩ = some q.2) (hc3 : w.cell? ⟨N, 3, none⟩ = some (.string q.1.b))
    (hq : RowsH w B q.2 q.1.hs) (hqa : ApartV q.2 v) (hqs : ∀ p ∈ qs, ApartV p.2 q.2) (hlen : qs.length + 1 ≤ 1000000000) (hB : B ≤ w.heap.size)
    (h : ∀ g cap w', RowsQ w' B (.slice (some ⟨g, 0, none⟩) (qs.length + 1) cap) (qs ++ [q]) → w.grownBy w' v.ownBlock → (v.ownBlock = some g ∨ g = w.heap.size) → wpList Tryz.prog ops Q rest (a.put o.dst (.slice (some ⟨g, 0, none⟩) (qs.length + 1) cap)) w') : wpList Tryz.prog ops Q (o :: rest) a w := by
  obtain ⟨g, cap, w', hrun, h1, h2, h3⟩ := run_append_req w B v qs o.type hown N q hc0 hc1 hc2 hc3 hq hqa hqs hlen hB
  refine wpList_plain hgd fun K hK => ?_
  unfold Oper.wp execOp
  simp only [ho, resolve, invoke, builtin, Sem.run_bind, Sem.run_pure, Result.andThen_ok, List.map_toArray, List.map_cons, List.map_nil, hs, hx, hrun]
  exact hK _ _ (h g cap w' h1 h2 h3)
/-- The same at one step of a drawn region. -/
theorem step_append_req {ops : Array Oper} {o : Oper} {a : Act} {w : World} {K : Act → World → Prop} {Q : Exit → Act → World → Prop} {E : Prop} (hgd : o.guard = none) (s x : Operand)
    (ho : o.op = .call { callee := .builtin .append, args := #[s, x], argTypes := #[28, 28] })
    (B : Nat) (v : Value) (qs : List Rv) (hs : a.eval s = v) (hown : RowsQ w B v qs)
    (N : Nat) (q : Rv) (hx : a.eval x = .slice (some ⟨N, 0, none⟩) 1 1) (hc0 : w.cell? ⟨N, 0, none⟩ = some (.string q.1.m)) (hc1 : w.cell? ⟨N, 1, none⟩ = some (.string q.1.p)) (hc2 : w.cell? ⟨N, 2, none⟩ = some q.2) (hc3 : w.cell? ⟨N, 3, none⟩ = some (.string q.1.b))
    (hq : RowsH w B q.2 q.1.hs) (hqa : ApartV q.2 v) (hqs : ∀ p ∈ qs, ApartV p.2 q.2) (hlen : qs.length + 1 ≤ 1000000000) (hB : B ≤ w.heap.size)
    (h : ∀ g cap w', RowsQ w' B (.slice (some ⟨g, 0, none⟩) (qs.length + 1) cap) (qs ++ [q]) → w.grownBy w' v.ownBlock → (v.ownBlock = some g ∨ g = w.heap.size) → K (a.put o.dst (.slice (some ⟨g, 0, none⟩) (qs.length + 1) cap)) w') :
    if Region.wanted o (yielded ops a.tmps) = true then Oper.wp Tryz.prog o a w K Q else E := by
  have hwt : Region.wanted o (yielded ops a.tmps) = true := by simp [Region.wanted, hgd]
  rw [if_pos hwt]
  obtain ⟨g, cap, w', hrun, h1, h2, h3⟩ := run_append_req w B v qs o.type hown N q hc0 hc1 hc2 hc3 hq hqa hqs hlen hB
  unfold Oper.wp execOp
  simp only [ho, resolve, invoke, builtin, Sem.run_bind, Sem.run_pure, Result.andThen_ok, List.map_toArray, List.map_cons, List.map_nil, hs, hx, hrun]
  exact h g cap w' h1 h2 h3

/-- What a slice of requests holds, in blocks below B. -/
def Rqs (w : World) (B : Nat) (a : Option Addr) (rs : List Rq) : Prop :=
  0 < rs.length → ∃ b o, a = some ⟨b, o, none⟩ ∧ b < B ∧ ∀ j (hj : j < rs.length), ∃ aj cj, w.cell? ⟨b, o + j * 4, none⟩ = some (.string rs[j].m) ∧ w.cell? ⟨b, o + j * 4 + 1, none⟩ = some (.string rs[j].p) ∧ w.cell? ⟨b, o + j * 4 + 2, none⟩ = some (.slice aj rs[j].hs.length cj) ∧ w.cell? ⟨b, o + j * 4 + 3, none⟩ = some (.string rs[j].b) ∧ Hds w B aj rs[j].hs
theorem Rqs.below {w w' : World} {B C : Nat} {a : Option Addr} {rs : List Rq} (h : Rqs w B a rs) (hb : Below C w w') (hB : B ≤ C) : Rqs w' B a rs := fun h0 => by
  obtain ⟨b, o, e, hbB, hc⟩ := h h0
  refine ⟨b, o, e, hbB, fun j hj => ?_⟩
  obtain ⟨aj, cj, h1, h2, h3, h4, h5⟩ := hc j hj
  have k := fun i => hb.cell (p := ⟨b, i, none⟩) (Nat.lt_of_lt_of_le hbB hB)
  exact ⟨aj, cj, (k _).trans h1, (k _).trans h2, (k _).trans h3, (k _).trans h4, h5.below hb hB⟩
theorem Rqs.mono {w : World} {B C : Nat} {a : Option Addr} {rs : List Rq} (h : Rqs w B a rs) (hB : B ≤ C) : Rqs w C a rs := fun h0 => by
  obtain ⟨b, o, e, hbB, hc⟩ := h h0
  refine ⟨b, o, e, Nat.lt_of_lt_of_le hbB hB, fun j hj => ?_⟩
  obtain ⟨aj, cj, h1, h2, h3, h4, h5⟩ := hc j hj
  exact ⟨aj, cj, h1, h2, h3, h4, h5.mono hB⟩
theorem Rqs.next {w w' : World} {a : Option Addr} {rs : List Rq} (h : Rqs w w.heap.size a rs) (hb : Below w.heap.size w w') : Rqs w' w'.heap.size a rs := (h.below hb (Nat.le_refl _)).mono hb.size
/-- A row of requests as a slice that is read. -/
theorem RowsQ.rqs {w : World} {B : Nat} {v : Value} {qs : List Rv} (h : RowsQ w B v qs) : ∃ a c, v = .slice a qs.length c ∧ Rqs w w.heap.size a (qs.map Prod.fst) := by
  rcases h.own.2 with ⟨e, h0⟩ | ⟨g, cap, cur, e, hB, hh, h1, h2, h3, h4⟩
  · have : qs = [] := List.length_eq_zero_iff.1 h0
    subst this
    exact ⟨none, 0, e, fun h => absurd h (Nat.lt_irrefl _)⟩
  · subst e
    refine ⟨_, _, rfl, fun _ => ⟨g, 0, rfl, (Array.getElem?_eq_some_iff.1 hh).1, fun j hj => ?_⟩⟩
    rw [List.length_map] at hj
    have hx := rvCells_at qs j hj
    have hl := rvCells_length qs
    obtain ⟨aj, cj, hv, hd⟩ := RowsH.hds (h.heads qs[j] (List.getElem_mem hj))
    have hown : w.ownsRow B 39 4 (.slice (some ⟨g, 0, none⟩) qs.length cap) qs.length (rvCells qs) := h.own
    rw [Nat.zero_add, List.getElem_map]
    refine ⟨aj, cj, ?_, ?_, ?_, ?_, hd⟩
    · rw [hown.cellAt (j * 4) (by omega)]; exact hx.1
    · rw [hown.cellAt (j * 4 + 1) (by omega)]; exact hx.2.1
    · rw [hown.cellAt (j * 4 + 2) (by omega), hx.2.2.1, hv]
    · rw [hown.cellAt (j * 4 + 3) (by omega)]; exact hx.2.2.2
end Go.Proofs.YtanebchmeaomgaaGreatDoor
namespace Go.Proofs.YtanebchmeaomgaaGreatDoor
open Go.RowKit M
set_option linter.unusedVariables false

theorem wp_append_O {w : World} {ops : Array Oper} {rest : List Oper} {o : Oper} {a : Act} {Q : Exit → Act → World → Prop} (hgd : o.guard = none) (sl x : Operand)
    (ho : o.op = .call { callee := .builtin .append, args := #[sl, x], argTypes := #[22, 22] })
    (B : Nat) (v : Value) (l : List UInt8) (hs : a.eval sl = v) (hown : OwnO w B v l) (am : Option Addr) (m : List UInt8) (c C : Nat) (hx : a.eval x = .slice am m.length c) (hy : Byt w C am m) (hlen : l.length + m.length ≤ 1099511627776) (hB : B ≤ w.heap.size)
    (h : ∀ v' w', OwnO w' B v' (l ++ m) → w.grownBy w' v.ownBlock → (v'.ownBlock = v.ownBlock ∨ v'.ownBlock = some w.heap.size) → wpList Tryz.prog ops Q rest (a.put o.dst v') w') : wpList Tryz.prog ops Q (o :: rest) a w := by
  refine wpList_plain hgd fun K hK => ?_
  obtain ⟨v', w', hr, h2, h3, h4⟩ := run_append_O w B v l o.type hown am m c C hy hlen hB
  unfold Oper.wp execOp
  simp only [ho, resolve, invoke, builtin, Sem.run_bind, Sem.run_pure, Result.andThen_ok, List.map_toArray, List.map_cons, List.map_nil, hs, hx, hr]
  exact hK _ _ (h v' w' h2 h3 h4)

theorem RowsQ.of {w w' : World} {B : Nat} {v : Value} {qs : List Rv} (h : RowsQ w B v qs) (hb : ∀ g, (v.ownBlock = some g ∨ ∃ q ∈ qs, q.2.ownBlock = some g) → w'.heap[g]? = w.heap[g]?) : RowsQ w' B v qs := by
  refine ⟨⟨h.own.1, ?_⟩, fun q hq => ?_, h.apart, h.pair⟩
  · rcases h.own.2 with h | ⟨g, cap, cur, rfl, hB, hh, hr⟩
    · exact .inl h
    · exact .inr ⟨g, cap, cur, rfl, hB, (hb g (.inl rfl)).trans hh, hr⟩
  · have h1 := h.heads q hq
    refine ⟨h1.1, ?_⟩
    rcases h1.2 with h | ⟨g, cap, cur, e, hB, hh, hr⟩
    · exact .inl h
    · exact .inr ⟨g, cap, cur, e, hB, (hb g (.inr ⟨q, hq, by rw [e]; rfl⟩)).trans hh, hr⟩
theorem RowsQ.lt {w : World} {B : Nat} {v : Value} {qs : List Rv} (h : RowsQ w B v qs) : ∀ g, (v.ownBlock = some g ∨ ∃ q ∈ qs, q.2.ownBlock = some g) → B ≤ g ∧ g < w.heap.size := by
  rintro g (hg | ⟨q, hq, hg⟩)
  · exact World.ownsRow.lt h.own g hg
  · exact (h.heads q hq).lt g hg
/-- '[]Req{}'. -/
theorem RowsQ.bare {w : World} {B N : Nat} (h : w.heap[N]? = some (Obj.cells #[] 39)) (hB : B ≤ N) : RowsQ w B (.slice (some ⟨N, 0, none⟩) 0 0) [] :=
  ⟨⟨rfl, .inr ⟨N, 0, #[], rfl, hB, h, Nat.le_refl _, Nat.zero_le _, rfl, rfl⟩⟩, (fun q h => by cases h), (fun q h => by cases h), List.Pairwise.nil⟩

/-- None of it lies in the box. -/
structure SepN (N : Nat) (uv rv : Value) (qs : List Rv) : Prop where
  u : uv.ownBlock ≠ some N
  r : rv.ownBlock ≠ some N
  q : ∀ q ∈ qs, q.2.ownBlock ≠ some N
theorem SepN.row {N : Nat} {uv rv : Value} {qs : List Rv} (h : SepN N uv rv qs) : ∀ g, (rv.ownBlock = some g ∨ ∃ q ∈ qs, q.2.ownBlock = some g) → g ≠ N := by
  rintro g (hg | ⟨q, hq, hg⟩) rfl
  · exact h.r hg
  · exact h.q q hq hg
/-- An open wire: its box in block N; bytes that are not yet read; requests; all in memory of their own, from B on. -/
def WireSt (w : World) (N B : Nat) (l : List UInt8) (bad : Int) (rs : List Rq) : Prop :=
  ∃ uv rv qs, w.heap[N]? = some (Obj.cells #[uv, .int .i64 bad, rv] 114) ∧ OwnO w B uv l ∧ RowsQ w B rv qs ∧ qs.map Prod.fst = rs ∧ (∀ g, uv.ownBlock = some g → rv.ownBlock ≠ some g ∧ ∀ q ∈ qs, q.2.ownBlock ≠ some g) ∧ SepN N uv rv qs
theorem WireSt.next {w w' : World} {N B : Nat} {l : List UInt8} {bad : Int} {rs : List Rq} (h : WireSt w N B l bad rs) (hb : Below w.heap.size w w') : WireSt w' N B l bad rs := by
  obtain ⟨uv, rv, qs, h1, h2, h3, h4, h5, h6⟩ := h
  exact ⟨uv, rv, qs, (hb.block N (Array.getElem?_eq_some_iff.1 h1).1).trans h1, h2.next hb, h3.next hb, h4, h5, h6⟩
theorem WireSt.lt {w : World} {N B : Nat} {l : List UInt8} {bad : Int} {rs : List Rq} (h : WireSt w N B l bad rs) : N < w.heap.size := by
  obtain ⟨uv, rv, qs, h1, _⟩ := h
  exact (Array.getElem?_eq_some_iff.1 h1).1
theorem box3 {W : World} {N : Nat} {v0 v1 v2 : Value} {t : TypeId} (h : W.heap[N]? = some (Obj.cells #[v0, v1, v2] t)) : W.cell? ⟨N, 0, none⟩ = some v0 ∧ W.cell? ⟨N, 1, none⟩ = some v1 ∧ W.cell? ⟨N, 2, none⟩ = some v2 ∧ W.frozen? ⟨N, 0, none⟩ = false ∧ W.frozen? ⟨N, 1, none⟩ = false ∧ W.frozen? ⟨N, 2, none⟩ = false := by
  refine ⟨?_, ?_, ?_, ?_, ?_, ?_⟩
  all_goals first | (unfold World.cell?; rw [h]; rfl) | (unfold World.frozen?; rw [h]; rfl)

set_option maxHeartbeats 1000000 in
theorem add_any (N B : Nat) (w : World) (l m : List UInt8) (bad : Int) (rs : List Rq) (a : Option Addr) (c C : Nat) (h : WireSt w N B l bad rs) (hBN : B ≤ N) (hy : Byt w C a m) (hs : l.length + m.length ≤ 4194304) :
    Calls Tryz.prog 76 #[.pointer (some ⟨N, 0, none⟩), .slice a m.length c] w fun e w' => (∃ v, e = .returned v) ∧ WireSt w' N B (l ++ m) bad rs ∧ Below B w w' := by
  obtain ⟨uv, rv, qs, h1, h2, h3, h4, h5, h6⟩ := h
  have hNlt : N < w.heap.size := (Array.getElem?_eq_some_iff.1 h1).1
  obtain ⟨x0, x1, x2, f0, f1, f2⟩ := box3 h1
  have hsl := h2.slice
  obtain ⟨au, cu, rfl, _⟩ := hsl
  have H1 := hide h1
  have H2 := hide h2
  have H3 := hide h3
  have H4 := hide h4
  have H5 := hide h5
  have H6 := hide h6
  have HY := hide hy
  clear h1 h2 h3 h4 h5 h6 hy x1 x2 f1 f2
  go_enter Tryz.func76, Tryz.ntmps76
  go_wp2_with (at_builtin; refine wp_append_O rfl _ _ rfl B _ l rfl H2.out a m c C rfl HY.out (by omega) (by omega) ?_)
  intro v' w1 o1 g1 hv
  have hN1 : w1.heap[N]? = w.heap[N]? := g1.block N hNlt (fun e => H6.out.u e.symm)
  have B1 := hN1.trans H1.out
  have hq : ∀ g, (rv.ownBlock = some g ∨ ∃ q ∈ qs, q.2.ownBlock = some g) → w1.heap[g]? = w.heap[g]? := fun g hg => g1.block g (H3.out.lt g hg).2 (fun e => by
    rcases hg with hg | ⟨q, hq, hg⟩
    · exact (H5.out g e.symm).1 hg
    · exact (H5.out g e.symm).2 q hq hg)
  have r1 := H3.out.of hq
  have ap : ∀ g, v'.ownBlock = some g → rv.ownBlock ≠ some g ∧ ∀ q ∈ qs, q.2.ownBlock ≠ some g := by
    intro g hg
    rcases hv with e | e
    · exact H5.out g (by rw [← e]; exact hg)
    · rw [hg] at e
      have hgz : g = w.heap.size := Option.some.inj e
      refine ⟨fun e2 => ?_, fun q hq e2 => ?_⟩
      · have := (H3.out.lt g (.inl e2)).2; omega
      · have := (H3.out.lt g (.inr ⟨q, hq, e2⟩)).2; omega
  have hlt1 := o1.lt
  have sp : SepN N v' rv qs := ⟨fun e => by
    rcases hv with e2 | e2
    · exact H6.out.u (by rw [← e2]; exact e)
    · have hz : N = w.heap.size := Option.some.inj (e.symm.trans e2)
      omega, H6.out.r, H6.out.q⟩
  have bw1 : Below B w w1 := ⟨g1.os, g1.tape, g1.output, g1.size, fun k hk => g1.block k (by omega) (fun e => by have := (H2.out.lt k e.symm).1; omega)⟩
  obtain ⟨a1, c1, rfl, _⟩ := o1.slice
  obtain ⟨y0, y1, y2, e0, e1, e2⟩ := box3 B1
  have HZ : Hid (WireSt (w1.setCell ⟨N, 0, none⟩ (.slice a1 (l ++ m).length c1)) N B (l ++ m) bad rs ∧ Below B w (w1.setCell ⟨N, 0, none⟩ (.slice a1 (l ++ m).length c1))) := by
    refine ⟨⟨_, rv, qs, set_heap B1 0 _, o1.of (fun g hg => Below.heap_setCell _ _ _ _ (fun e => sp.u (by rw [hg, show g = N from e]))), r1.of (fun g hg => Below.heap_setCell _ _ _ _ (sp.row g hg)), H4.out, ap, sp⟩, bw1.setCell hBN _⟩
  clear o1 g1 hv hN1 B1 hq r1 ap sp hlt1 bw1 H6 H1 H2 H3 H4 H5 HY x0 f0 y1 y2 e1 e2
  rw [List.length_append] at *
  go_wp2
  go_end0
  exact ⟨⟨_, rfl⟩, HZ.out⟩
end Go.Proofs.YtanebchmeaomgaaGreatDoor
namespace Go.Proofs.YtanebchmeaomgaaGreatDoor
open Go.RowKit M
set_option linter.unusedVariables false

theorem results_take (tmps : Array Value) (N : Nat) (W : World) (v0 v1 v2 v3 : Value) (x : Int) (h2 : tmps.getD 2 undef = .pointer (some ⟨N, 0, none⟩)) (h3 : tmps.getD 3 undef = .int .i64 x) (hg : W.heap[N]? = some (Obj.cells #[v0, v1, v2, v3] 39)) :
    (results Tryz.f116 tmps).run Tryz.prog W = .ok (.tuple #[.agg #[v0, v1, v2, v3], .int .i64 x]) W := by
  have hl := run_loadVar_row (P := Tryz.prog) W N 39 39 #[v0, v1, v2, v3] (0, 0) _ hg Tryz.underlying39 rfl req_desc
  simp at h2 h3
  simp [results, Tryz.results116, h2, h3, asAddr, hl]

/-- An open wire, part by part. -/
structure WireEx (w : World) (N B : Nat) (uv : Value) (l : List UInt8) (bad : Int) (rv : Value) (qs : List Rv) : Prop where
  box : w.heap[N]? = some (Obj.cells #[uv, .int .i64 bad, rv] 114)
  buf : OwnO w B uv l
  row : RowsQ w B rv qs
  apart : ∀ g, uv.ownBlock = some g → rv.ownBlock ≠ some g ∧ ∀ q ∈ qs, q.2.ownBlock ≠ some g
  sep : SepN N uv rv qs
theorem WireEx.st {w : World} {N B : Nat} {uv rv : Value} {l : List UInt8} {bad : Int} {qs : List Rv} (h : WireEx w N B uv l bad rv qs) : WireSt w N B l bad (qs.map Prod.fst) := ⟨uv, rv, qs, h.box, h.buf, h.row, rfl, h.apart, h.sep⟩
theorem WireSt.ex {w : World} {N B : Nat} {l : List UInt8} {bad : Int} {rs : List Rq} (h : WireSt w N B l bad rs) : ∃ uv rv qs, WireEx w N B uv l bad rv qs ∧ qs.map Prod.fst = rs := by
  obtain ⟨uv, rv, qs, h1, h2, h3, h4, h5, h6⟩ := h
  exact ⟨uv, rv, qs, ⟨h1, h2, h3, h5, h6⟩, h4⟩
theorem WireEx.lt {w : World} {N B : Nat} {uv rv : Value} {l : List UInt8} {bad : Int} {qs : List Rv} (h : WireEx w N B uv l bad rv qs) : N < w.heap.size := (Array.getElem?_eq_some_iff.1 h.box).1

/-- What was there stays, but for the box. -/
def KeepN (N : Nat) (w w' : World) : Prop := ∀ k, k < w.heap.size → k ≠ N → w'.heap[k]? = w.heap[k]?
theorem WireEx.kept {w w' : World} {N B : Nat} {uv uv' rv : Value} {l l' : List UInt8} {bad bad' : Int} {qs : List Rv} (h : WireEx w N B uv l bad rv qs) (hk : KeepN N w w') (hb : w'.heap[N]? = some (Obj.cells #[uv', .int .i64 bad', rv] 114)) (ho : OwnO w B uv' l') (hv : ∀ g, uv'.ownBlock = some g → uv.ownBlock = some g) : WireEx w' N B uv' l' bad' rv qs :=
  ⟨hb, ho.of (fun g hg => hk g (ho.lt g hg).2 (fun e => h.sep.u (by rw [hv g hg, e]))), h.row.of (fun g hg => hk g (h.row.lt g hg).2 (h.sep.row g hg)), fun g hg => h.apart g (hv g hg), ⟨fun e => h.sep.u (hv _ e), h.sep.r, h.sep.q⟩⟩

set_option maxRecDepth 100000 in
set_option maxHeartbeats 4000000 in
theorem take_any (N B : Nat) (w : World) (uv rv : Value) (l : List UInt8) (bad : Int) (qs : List Rv) (mx : Int) (h : WireEx w N B uv l bad rv qs) (hBN : B ≤ N) (hl : l.length ≤ 4194304) (h0 : 0 < w.heap.size) (hmx : w.cell? ⟨0, 0, none⟩ = some (.int .i64 mx)) :
    Calls Tryz.prog 116 #[.pointer (some ⟨N, 0, none⟩)] w fun e w' => (∃ hv, e = .returned (.tuple #[.agg #[.string (getR l).1.m, .string (getR l).1.p, hv, .string (getR l).1.b], .int .i64 (getR l).2.2]) ∧ RowsH w' w.heap.size hv (getR l).1.hs) ∧ (∃ uv', WireEx w' N B uv' (l.drop (getR l).2.1) bad rv qs ∧ ∀ g, uv'.ownBlock = some g → uv.ownBlock = some g) ∧ Below B w w' := by
  obtain ⟨w0, hw0⟩ : ∃ w0, w.alloc (Obj.cells #[.string ⟨#[]⟩, .string ⟨#[]⟩, .slice none 0 0, .string ⟨#[]⟩] 39) = w0 := ⟨_, rfl⟩
  have c0 : Below w.heap.size w w0 := by rw [← hw0]; exact (Below.refl _ _).alloc (Nat.le_refl _) _
  have z0 : ZeroB w.heap.size w0 := by rw [← hw0]; exact heap_alloc_new w _
  have s0 : w0.heap.size = w.heap.size + 1 := by rw [← hw0]; simp
  have hN := h.lt
  have b0 := (c0.block N hN).trans h.box
  obtain ⟨x0, x1, x2, f0, f1, f2⟩ := box3 b0
  have o0 := h.buf.next c0
  have HG := hide (getReq_own B uv l mx w0 o0 hl (Nat.lt_of_lt_of_le h0 c0.size) ((c0.cell (p := ⟨0, 0, none⟩) h0).trans hmx))
  have hn : (getR l).2.1 ≤ l.length := by
    by_cases hc : (getR l).2.2 = 0
    · exact (getR_ok hc).2
    · rw [(getR_bad hc).2]; exact Nat.zero_le _
  obtain ⟨R, n, C, hR⟩ : ∃ R n C, getR l = (R, n, C) := ⟨_, _, _, rfl⟩
  rw [hR] at HG hn ⊢
  obtain ⟨au, cu, hu, hlc, hcm, hnil, hsp, hyt⟩ := h.buf.slice
  unfold maxLen at hcm
  subst hu
  have hn' : n ≤ l.length := hn
  have hni : (n : Int) ≤ (l.length : Int) := by omega
  have hnc : (n : Int) ≤ (cu : Int) := by omega
  have hlci : (l.length : Int) ≤ (cu : Int) := by omega
  have H := hide h
  have C0 := hide c0
  have Z0 := hide z0
  have HNil := hide hnil
  have HSp := hide hsp
  clear h c0 z0 o0 hmx x1 x2 f1 f2 b0 hR hn hnil hsp hyt f0
  go_enter Tryz.func116, Tryz.ntmps116
  go_wp2_with fail
  try rw [hw0]
  refine HG.out.mono ?_
  rintro e w1 ⟨⟨hv, rfl, hrow⟩, b1⟩
  obtain ⟨ah, ch, rfl, hd⟩ := RowsH.hds hrow
  have HRow := hide hrow
  obtain ⟨w2, hw2⟩ : ∃ w2, w1.alloc (Obj.cells #[.string R.m, .string R.p, .slice ah R.hs.length ch, .string R.b] 39) = w2 := ⟨_, rfl⟩
  have b2 : Below w1.heap.size w1 w2 := by rw [← hw2]; exact (Below.refl _ _).alloc (Nat.le_refl _) _
  have r2 : w2.heap[w1.heap.size]? = some (Obj.cells #[.string R.m, .string R.p, .slice ah R.hs.length ch, .string R.b] 39) := by rw [← hw2]; exact heap_alloc_new w1 _
  have s2 : w2.heap.size = w1.heap.size + 1 := by rw [← hw2]; simp
  have hs1 := b1.size
  have c2 : Below w.heap.size w w2 := C0.out.trans ((b1.trans (b2.mono b1.size)).mono C0.out.size)
  have z2 : ZeroB w.heap.size w2 := (Z0.out.next b1).next b2
  have hb2 := (c2.block N hN).trans H.out.box
  obtain ⟨y0, y1, y2, e0, e1, e2⟩ := box3 hb2
  have hr2 := ownsH_below HRow.out b2
  have HR2 := hide hr2
  have C2 := hide c2
  have Z2 := hide z2
  have B2 := hide hb2
  have R2 := hide r2
  have hM1 : w.heap.size < w1.heap.size := by omega
  have fin : ∀ (uv' : Value), OwnO w B uv' (l.drop n) → (∀ g, uv'.ownBlock = some g → (Value.slice au l.length cu).ownBlock = some g) → ∀ (v0 v1 v2 v3 : Value), 
      RowsH (((((w2.setCell ⟨N, 0, none⟩ uv').setCell ⟨w.heap.size, 0, none⟩ v0).setCell ⟨w.heap.size, 1, none⟩ v1).setCell ⟨w.heap.size, 2, none⟩ v2).setCell ⟨w.heap.size, 3, none⟩ v3) w.heap.size (.slice ah R.hs.length ch) R.hs ∧ WireEx (((((w2.setCell ⟨N, 0, none⟩ uv').setCell ⟨w.heap.size, 0, none⟩ v0).setCell ⟨w.heap.size, 1, none⟩ v1).setCell ⟨w.heap.size, 2, none⟩ v2).setCell ⟨w.heap.size, 3, none⟩ v3) N B uv' (l.drop n) bad rv qs ∧ Below B w (((((w2.setCell ⟨N, 0, none⟩ uv').setCell ⟨w.heap.size, 0, none⟩ v0).setCell ⟨w.heap.size, 1, none⟩ v1).setCell ⟨w.heap.size, 2, none⟩ v2).setCell ⟨w.heap.size, 3, none⟩ v3) := by
    intro uv' ho hv v0 v1 v2 v3
    have hlo : w.heap.size < w0.heap.size := by omega
    refine ⟨?_, ?_, ?_⟩
    · refine RowsH.base (B := w0.heap.size) ?_ (Nat.le_of_lt hlo)
      exact ownsRow_setCell_below (ownsRow_setCell_below (ownsRow_setCell_below (ownsRow_setCell_below (ownsRow_setCell_below HR2.out (by show N < _; omega) _) (by show w.heap.size < _; exact hlo) _) (by show w.heap.size < _; exact hlo) _) (by show w.heap.size < _; exact hlo) _) (by show w.heap.size < _; exact hlo) _
    · have hne : N ≠ w.heap.size := by omega
      refine H.out.kept (fun k hk hkN => ?_) (set_other (set_other (set_other (set_other (set_heap B2.out 0 uv') hne _) hne _) hne _) hne _) ho hv
      have hkM : k ≠ w.heap.size := by omega
      rw [Below.heap_setCell _ _ _ _ hkM, Below.heap_setCell _ _ _ _ hkM, Below.heap_setCell _ _ _ _ hkM, Below.heap_setCell _ _ _ _ hkM, Below.heap_setCell _ _ _ _ hkN]
      exact C2.out.block k hk
    · exact set4_below ((C2.out.mono (by omega)).setCell (p := ⟨N, 0, none⟩) hBN uv') (by omega) v0 v1 v2 v3
  have Fin := hide fin
  clear hrow hd b2 r2 c2 z2 hb2 hr2 y1 y2 e1 e2 b1 HG x0 fin
  cases au with
  | none =>
    obtain ⟨hl0, hc0⟩ := HNil.out rfl
    subst hl0
    subst hc0
    have hn0 : n = 0 := by simpa using hn'
    subst hn0
    obtain ⟨w3, hw3⟩ : ∃ w3, w2.setCell ⟨N, 0, none⟩ (.slice none 0 0) = w3 := ⟨_, rfl⟩
    have z3 : ZeroB w.heap.size w3 := by rw [← hw3]; exact set_other Z2.out (by omega) _
    have r3 : w3.heap[w1.heap.size]? = some (Obj.cells #[.string R.m, .string R.p, .slice ah R.hs.length ch, .string R.b] 39) := by rw [← hw3]; exact set_other R2.out (by omega) _
    obtain ⟨p0, p1, p2, p3, q0, q1, q2, q3⟩ := ReqB.cells r3
    obtain ⟨g0, g1, g2, g3, j0, j1, j2, j3⟩ := z3.cells
    have Z3 := hide z3
    have FF := hide (Fin.out (.slice none 0 0) H.out.buf (fun g hg => hg))
    rw [hw3] at FF
    clear z3 r3 q0 q1 q2 q3
    go_wp2
    refine bodyPost_ret (results_take _ w.heap.size _ _ _ _ _ _ rfl rfl (set4_heap Z3.out _ _ _ _)) rfl ?_
    obtain ⟨k1, k2, k3⟩ := FF.out (.string R.m) (.string R.p) (.slice ah R.hs.length ch) (.string R.b)
    exact ⟨⟨_, rfl, k1⟩, ⟨_, k2, fun g hg => hg⟩, k3⟩
  | some x =>
    obtain ⟨g, o, sp⟩ := x
    have hsp : sp = none := HSp.out _ rfl
    subst hsp
    obtain ⟨xv, hxv⟩ : ∃ xv, (if cu = n then some (⟨g, o, none⟩ : Addr) else some ⟨g, o + n, none⟩) = xv := ⟨_, rfl⟩
    have hdl : (l.drop n).length = l.length - n := List.length_drop
    have od := H.out.buf.drop hn'
    rw [hxv, hdl] at od
    have odv : ∀ k, (Value.slice xv (l.length - n) (cu - n)).ownBlock = some k → (Value.slice (some ⟨g, o, none⟩) l.length cu).ownBlock = some k := by
      intro k hk
      rw [← hxv] at hk
      split at hk <;> exact hk
    obtain ⟨w3, hw3⟩ : ∃ w3, w2.setCell ⟨N, 0, none⟩ (.slice xv (l.length - n) (cu - n)) = w3 := ⟨_, rfl⟩
    have z3 : ZeroB w.heap.size w3 := by rw [← hw3]; exact set_other Z2.out (by omega) _
    have r3 : w3.heap[w1.heap.size]? = some (Obj.cells #[.string R.m, .string R.p, .slice ah R.hs.length ch, .string R.b] 39) := by rw [← hw3]; exact set_other R2.out (by omega) _
    obtain ⟨p0, p1, p2, p3, q0, q1, q2, q3⟩ := ReqB.cells r3
    obtain ⟨g0, g1, g2, g3, j0, j1, j2, j3⟩ := z3.cells
    have Z3 := hide z3
    have FF := hide (Fin.out (.slice xv (l.length - n) (cu - n)) od odv)
    have OV := hide odv
    rw [hw3] at FF
    clear z3 r3 q0 q1 q2 q3 od odv
    go_wp2
    refine bodyPost_ret (results_take _ w.heap.size _ _ _ _ _ _ rfl rfl (set4_heap Z3.out _ _ _ _)) rfl ?_
    obtain ⟨k1, k2, k3⟩ := FF.out (.string R.m) (.string R.p) (.slice ah R.hs.length ch) (.string R.b)
    exact ⟨⟨_, rfl, k1⟩, ⟨_, k2, OV.out⟩, k3⟩

set_option maxHeartbeats 400000 in
theorem drop_any (N B : Nat) (w : World) (uv rv : Value) (l : List UInt8) (bad : Int) (qs : List Rv) (h : WireEx w N B uv l bad rv qs) (hBN : B ≤ N) :
    Calls Tryz.prog 117 #[.pointer (some ⟨N, 0, none⟩)] w fun e w' => (∃ v, e = .returned v) ∧ WireEx w' N B (.slice none 0 0) [] bad rv qs ∧ Below B w w' := by
  obtain ⟨x0, x1, x2, f0, f1, f2⟩ := box3 h.box
  have HZ : Hid (WireEx (w.setCell ⟨N, 0, none⟩ (.slice none 0 0)) N B (.slice none 0 0) [] bad rv qs ∧ Below B w (w.setCell ⟨N, 0, none⟩ (.slice none 0 0))) :=
    ⟨h.kept (fun k hk hkN => Below.heap_setCell _ _ _ _ hkN) (set_heap h.box 0 _) (OwnO.nil _ _) (fun g hg => by cases hg), (Below.refl B w).setCell (p := ⟨N, 0, none⟩) hBN _⟩
  clear h x1 x2 f1 f2
  go_enter Tryz.func117, Tryz.ntmps117
  go_wp2
  go_end0
  exact ⟨⟨_, rfl⟩, HZ.out⟩
end Go.Proofs.YtanebchmeaomgaaGreatDoor
namespace Go.Proofs.YtanebchmeaomgaaGreatDoor.M

theorem idx_skip {x : UInt8} {r p : List UInt8} {n : Nat} (h : p.isPrefixOf (x :: r) = false) (hr : Lib.index r p = n) : Lib.index (x :: r) p = ((n + 1 : Nat) : Int) := by
  unfold Lib.index
  rw [h, hr]
  have : ((n : Int) == -1) = false := by rw [beq_eq_false_iff_ne]; omega
  simp [this]
theorem idx_hit {l p : List UInt8} (hp : p ≠ []) (h : p.isPrefixOf l = true) : Lib.index l p = 0 := by
  cases l with
  | nil => cases p with
    | nil => exact absurd rfl hp
    | cons _ _ => simp [List.isPrefixOf] at h
  | cons x r => unfold Lib.index; rw [h]; rfl
theorem pre_no {c x : UInt8} {p r : List UInt8} (h : x ≠ c) : (c :: p).isPrefixOf (x :: r) = false := by
  rw [Bool.eq_false_iff]
  intro e
  simp [List.isPrefixOf] at e
  exact h e.1.symm
theorem idx_word {c : UInt8} {p r : List UInt8} {n : Nat} (hr : Lib.index r (c :: p) = n) : ∀ a : List UInt8, c ∉ a → Lib.index (a ++ r) (c :: p) = ((a.length + n : Nat) : Int) := by
  intro a
  induction a with
  | nil => intro _; rw [List.nil_append, hr]; simp
  | cons x a ih =>
    intro h
    have hx : x ≠ c := fun e => h (by rw [e]; simp)
    have := idx_skip (pre_no (p := p) (r := a ++ r) hx) (ih (fun e => h (by simp [e])))
    rw [List.cons_append, this]
    simp
    omega
/-- A word without the stop's first byte is cut off. -/
theorem cutS_word {c : UInt8} {p a b : List UInt8} (h : c ∉ a) : cutS (c :: p) (a ++ (c :: p ++ b)) = some (a, b) := by
  have h0 : Lib.index (c :: p ++ b) (c :: p) = ((0 : Nat) : Int) := idx_hit (by simp) (by rw [List.isPrefixOf_iff_prefix]; exact List.prefix_append _ _)
  have h1 := idx_word h0 a h
  rw [Nat.add_zero] at h1
  unfold cutS
  rw [h1, if_pos (by omega), Int.toNat_natCast, List.take_left']
  · rw [← List.append_assoc, List.drop_left' (by simp)]
  · rfl

/-- The line of a head. -/
def hdLine (h : Hd) : List UInt8 := h.1.data.toList ++ ([58, 32] ++ h.2.data.toList)
theorem hdTxt_line (h : Hd) : hdTxt h = hdLine h ++ [13, 10] := by simp [hdTxt, hdLine, crlf]
theorem hdsTxt_flat (hs : List Hd) : hdsTxt hs = flatE (hs.map hdLine) := by
  unfold hdsTxt flatE
  rw [List.flatMap_map]
  congr 1
  funext h
  exact hdTxt_line h
theorem flatE_cons (x : List UInt8) (L : List (List UInt8)) : flatE (x :: L) = x ++ (13 :: 10 :: flatE L) := by simp [flatE]

def lineOk (x : List UInt8) : Prop := x ≠ [] ∧ 13 ∉ x
theorem two4_no {x : UInt8} {T : List UInt8} (h : x ≠ 13) : two4.isPrefixOf (13 :: 10 :: x :: T) = false := by
  rw [Bool.eq_false_iff]
  intro e
  simp [two4, List.isPrefixOf] at e
  exact h e.1.symm
/-- Behind lines that are not empty: there the first two line's ends are. -/
theorem idx_lines (T : List UInt8) : ∀ (L : List (List UInt8)), L ≠ [] → (∀ x ∈ L, lineOk x) → ∃ n : Nat, Lib.index (flatE L ++ (13 :: 10 :: T)) two4 = n ∧ n + 2 = (flatE L).length := by
  intro L
  induction L with
  | nil => intro h; exact absurd rfl h
  | cons x L ih =>
    intro _ hL
    have hx := hL x (by simp)
    by_cases hn : L = []
    · subst hn
      refine ⟨x.length, ?_, by simp [flatE]⟩
      have h0 : Lib.index (13 :: 10 :: 13 :: 10 :: T) two4 = ((0 : Nat) : Int) := idx_hit (by simp [two4]) (by simp [two4, List.isPrefixOf])
      have := idx_word (c := 13) (p := [10, 13, 10]) h0 x hx.2
      rw [Nat.add_zero] at this
      rw [← this]
      simp [flatE, two4]
    · obtain ⟨n, h1, h2⟩ := ih hn (fun y hy => hL y (by simp [hy]))
      obtain ⟨y, M, rfl⟩ : ∃ y M, L = y :: M := by
        cases L with
        | nil => exact absurd rfl hn
        | cons y M => exact ⟨y, M, rfl⟩
      obtain ⟨hy1, hy2⟩ := hL y (by simp)
      obtain ⟨c, y', rfl⟩ : ∃ c y', y = c :: y' := by
        cases y with
        | nil => exact absurd rfl hy1
        | cons c y' => exact ⟨c, y', rfl⟩
      have hc : c ≠ 13 := fun e => hy2 (by rw [e]; simp)
      obtain ⟨T', hT'⟩ : ∃ T', flatE ((c :: y') :: M) ++ (13 :: 10 :: T) = c :: T' := ⟨_, by rw [flatE_cons, List.cons_append, List.cons_append]⟩
      rw [hT'] at h1
      have i1 : Lib.index (10 :: c :: T') two4 = ((n + 1 : Nat) : Int) := idx_skip (pre_no (by decide)) h1
      have i2 : Lib.index (13 :: 10 :: c :: T') two4 = ((n + 1 + 1 : Nat) : Int) := idx_skip (two4_no hc) i1
      have i3 := idx_word (c := 13) (p := [10, 13, 10]) i2 x hx.2
      refine ⟨x.length + (n + 1 + 1), ?_, ?_⟩
      · rw [← i3, flatE_cons]
        simp only [List.append_assoc, List.cons_append, hT']
        rfl
      · rw [flatE_cons]
        simp only [List.length_append, List.length_cons]
        omega
theorem lines_word {x : List UInt8} (h : 13 ∉ x) : linesL x = [x] := by
  induction x with
  | nil => rfl
  | cons c r ih =>
    cases r with
    | nil => rfl
    | cons d r =>
      rw [linesL, if_neg (fun e => h (by rw [e.1]; simp)), ih (fun e => h (by simp [e]))]
theorem lines_app {x : List UInt8} (T : List UInt8) (h : 13 ∉ x) : linesL (x ++ 13 :: 10 :: T) = x :: linesL T := by
  induction x with
  | nil => rw [List.nil_append, linesL, if_pos ⟨rfl, rfl⟩]
  | cons c r ih =>
    have hr := ih (fun e => h (by simp [e]))
    have hc : ¬ c = 13 := fun e => h (by rw [e]; simp)
    cases r with
    | nil =>
      rw [List.nil_append] at hr
      rw [List.cons_append, List.nil_append, linesL, if_neg (fun e => hc e.1), hr]
    | cons d r =>
      rw [List.cons_append] at hr
      rw [List.cons_append, List.cons_append, linesL, if_neg (fun e => hc e.1), hr]
/-- The lines, without the last one's end. -/
theorem lines_flat : ∀ (L : List (List UInt8)) (t : List UInt8), L ≠ [] → (∀ x ∈ L, 13 ∉ x) → t ++ [13, 10] = flatE L → linesL t = L := by
  intro L
  induction L with
  | nil => intro t h; exact absurd rfl h
  | cons x L ih =>
    intro t _ hL ht
    by_cases hn : L = []
    · subst hn
      have : t = x := by
        rw [flatE_cons] at ht
        exact List.append_cancel_right (show t ++ [13, 10] = x ++ [13, 10] from ht)
      rw [this]
      exact lines_word (hL x (by simp))
    · obtain ⟨t', ht'⟩ : ∃ t', flatE L = t' ++ [13, 10] := by
        refine ⟨(flatE L).dropLast.dropLast, ?_⟩
        obtain ⟨M, y, rfl⟩ : ∃ M y, L = M ++ [y] := ⟨L.dropLast, L.getLast hn, (List.dropLast_concat_getLast hn).symm⟩
        have : flatE (M ++ [y]) = (flatE M ++ y ++ [13]) ++ [10] := by simp [flatE]
        rw [this, List.dropLast_concat, List.dropLast_concat]
        simp
      rw [flatE_cons, ht'] at ht
      have : t = x ++ 13 :: 10 :: t' := by
        apply List.append_cancel_right (bs := [13, 10])
        rw [ht]
        simp
      rw [this, lines_app _ (hL x (by simp)), ih t' hn (fun y hy => hL y (by simp [hy])) ht'.symm]

theorem bytesOf_self (s : ByteArray) : bytesOf s.data.toList = s := by
  apply ByteArray.ext; simp [bytesOf]
theorem sm_all {l : List UInt8} (h : smB l = true) : allB l [2, 4, 7] = true ∧ l ≠ [] := by
  cases l with
  | nil => cases h
  | cons c r =>
    simp only [smB, Bool.and_eq_true] at h
    exact ⟨h.2, by simp⟩
theorem hd_facts {h : Hd} (hb : hdB h = true) : smB h.1.data.toList = true ∧ 58 ∉ h.1.data.toList ∧ 13 ∉ h.1.data.toList ∧ h.1.data.toList ≠ [] ∧ 13 ∉ h.2.data.toList ∧ trimL h.2.data.toList = h.2.data.toList := by
  simp only [hdB, valB, Bool.and_eq_true, decide_eq_true_eq] at hb
  obtain ⟨h1, h2, h3, h4⟩ := hb
  obtain ⟨h5, h6⟩ := sm_all h1
  exact ⟨h1, allB_no 58 h5 (by decide), allB_no 13 h5 (by decide), h6, allB_no 13 h3 (by decide), h4⟩
theorem hdLine_ok {h : Hd} (hb : hdB h = true) : lineOk (hdLine h) := by
  obtain ⟨_, _, h3, h4, h5, _⟩ := hd_facts hb
  refine ⟨fun e => ?_, fun e => ?_⟩
  · unfold hdLine at e
    exact h4 (List.append_eq_nil_iff.1 e).1
  · unfold hdLine at e
    simp at e
    rcases e with e | e
    · exact h3 (by simpa using e)
    · exact h5 (by simpa using e)
end Go.Proofs.YtanebchmeaomgaaGreatDoor.M
namespace Go.Proofs.YtanebchmeaomgaaGreatDoor.M

/-- An answer: its code, its heads, its body. -/
structure Rs where
  c : Int
  hs : List Hd
  b : ByteArray
def codeB (c : Int) : Bool := inB c 100 599
def respB (r : Rs) : Bool := codeB r.c && (hdsB r.hs && decide (r.b.size ≤ 400))
def zeroA : Rs := ⟨0, [], ⟨#[]⟩⟩
def topA (c : Int) : List UInt8 := proto ++ (32 :: Lib.decDigits c.toNat)
def lenH (n : Nat) : Hd := (lenName, bytesOf (Lib.decDigits n))
def frontA (r : Rs) : List UInt8 := linesTxt (topA r.c) r.hs [lenH r.b.size]
/-- The bytes of an answer. -/
def putA (r : Rs) : List UInt8 := if respB r = true then frontA r ++ r.b.data.toList else []
def sameA (a b : Rs) : Bool := decide (a.c = b.c) && (sameH a.hs b.hs && decide (a.b = b.b))

theorem dec3 {c : Int} (h : codeB c = true) : c = (c.toNat : Int) ∧ 100 ≤ c.toNat ∧ c.toNat ≤ 599 := by
  simp [codeB, inB] at h
  omega
theorem dec_no13 (n : Nat) : 13 ∉ Lib.decDigits n ∧ 58 ∉ Lib.decDigits n ∧ 32 ∉ Lib.decDigits n ∧ Lib.decDigits n ≠ [] := by
  obtain ⟨_, h2, h3, _⟩ := dec_back n n (Nat.le_refl _)
  refine ⟨allB_no 13 h2 (by decide), allB_no 58 h2 (by decide), allB_no 32 h2 (by decide), fun e => ?_⟩
  rw [e] at h3; simp at h3
theorem dec_three {n : Nat} (h1 : 100 ≤ n) (h2 : n ≤ 599) : (Lib.decDigits n).length = 3 := by
  rw [dec_great n (by omega), dec_great (n / 10) (by omega), dec_small (n / 10 / 10) (by omega)]
  simp
theorem lenH_ok (n : Nat) : lineOk (hdLine (lenH n)) := by
  refine ⟨?_, ?_⟩
  · unfold hdLine lenH lenName; simp
  · have := (dec_no13 n).1
    unfold hdLine lenH lenName bytesOf
    simpa using this
theorem free_hd {h : Hd} (hb : hdFree h = true) : hdB h = true ∧ ¬ h.1 = lenName ∧ ¬ h.1 = codName := by
  simpa [hdFree] using hb
theorem resp_hds {r : Rs} (h : respB r = true) : codeB r.c = true ∧ (∀ x ∈ r.hs, hdFree x = true) ∧ r.hs.length ≤ 8 ∧ r.b.size ≤ 400 := by
  simp only [respB, hdsB, Bool.and_eq_true, decide_eq_true_eq, List.all_eq_true] at h
  exact ⟨h.1, h.2.1.1, h.2.1.2, h.2.2⟩
/-- The lines of an answer. -/
def linesA (r : Rs) : List (List UInt8) := topA r.c :: (r.hs.map hdLine ++ [hdLine (lenH r.b.size)])
theorem front_flat (r : Rs) : frontA r = flatE (linesA r) ++ [13, 10] := by
  unfold frontA linesTxt linesA
  rw [flatE_cons, hdsTxt_flat, hdsTxt_flat]
  simp [flatE, crlf]
theorem topA_ok (c : Int) : lineOk (topA c) := by
  refine ⟨by simp [topA, proto], ?_⟩
  have := (dec_no13 c.toNat).1
  simpa [topA, proto] using this
theorem linesA_ok {r : Rs} (h : respB r = true) : ∀ x ∈ linesA r, lineOk x := by
  obtain ⟨_, h2, _⟩ := resp_hds h
  intro x hx
  rcases List.mem_cons.1 hx with rfl | hx
  · exact topA_ok _
  · rcases List.mem_append.1 hx with hx | hx
    · obtain ⟨y, hy, rfl⟩ := List.mem_map.1 hx
      exact hdLine_ok (free_hd (h2 y hy)).1
    · obtain rfl := List.mem_singleton.1 hx
      exact lenH_ok _
theorem putA_of {r : Rs} (h : respB r = true) : putA r = frontA r ++ r.b.data.toList := if_pos h
theorem putA_no {r : Rs} (h : respB r = false) : putA r = [] := if_neg (by rw [h]; decide)
theorem putA_ne {r : Rs} (h : respB r = true) : putA r ≠ [] := by
  rw [putA_of h]
  intro e
  have := (List.append_eq_nil_iff.1 e).1
  simp [frontA, linesTxt, topA, proto] at this
/-- An answer stands ahead of these bytes. -/
def RespAt (r : Rs) (l : List UInt8) : Prop := respB r = true ∧ ∃ q, l = putA r ++ q
theorem RespAt.flat {r : Rs} {l : List UInt8} (h : RespAt r l) : ∃ q, l = flatE (linesA r) ++ (13 :: 10 :: (r.b.data.toList ++ q)) := by
  obtain ⟨h1, q, rfl⟩ := h
  exact ⟨q, by rw [putA_of h1, front_flat]; simp⟩
/-- Where the first two line's ends are. -/
theorem RespAt.idx {r : Rs} {l : List UInt8} (h : RespAt r l) : Lib.index l two4 + 4 = ((frontA r).length : Int) := by
  obtain ⟨q, e⟩ := h.flat
  obtain ⟨n, h1, h2⟩ := idx_lines (r.b.data.toList ++ q) (linesA r) (by simp [linesA]) (linesA_ok h.1)
  rw [e, h1, front_flat]
  simp
  omega
theorem flatE_end {L : List (List UInt8)} (h : L ≠ []) : ∃ t, flatE L = t ++ [13, 10] := by
  obtain ⟨M, y, rfl⟩ : ∃ M y, L = M ++ [y] := ⟨L.dropLast, L.getLast h, (List.dropLast_concat_getLast h).symm⟩
  exact ⟨flatE M ++ y, by simp [flatE]⟩
theorem RespAt.lines {r : Rs} {l : List UInt8} (h : RespAt r l) : linesL (l.take ((frontA r).length - 4)) = linesA r := by
  obtain ⟨q, e⟩ := h.flat
  have hne : linesA r ≠ [] := by simp [linesA]
  obtain ⟨t, ht⟩ := flatE_end hne
  have : l.take ((frontA r).length - 4) = t := by
    rw [front_flat, e, ht]
    simp
  rw [this]
  exact lines_flat _ t hne (fun x hx => (linesA_ok h.1 x hx).2) ht.symm
theorem RespAt.body {r : Rs} {l : List UInt8} (h : RespAt r l) : (frontA r).length + r.b.size ≤ l.length ∧ (l.drop (frontA r).length).take r.b.size = r.b.data.toList ∧ l.take ((frontA r).length + r.b.size) = putA r := by
  obtain ⟨h1, q, rfl⟩ := h
  have e : r.b.data.toList.length = r.b.size := Array.length_toList
  rw [putA_of h1]
  refine ⟨by simp [e], ?_, ?_⟩
  · rw [List.append_assoc, List.drop_left' rfl, List.take_left' e]
  · rw [List.take_left' (by simp [e])]
theorem topA_len {c : Int} (h : codeB c = true) : (topA c).length = 12 ∧ (topA c).take 9 = proto ++ [32] ∧ (topA c).drop 9 = Lib.decDigits c.toNat := by
  obtain ⟨_, h1, h2⟩ := dec3 h
  have := dec_three h1 h2
  refine ⟨by simp [topA, proto, this], by simp [topA, proto], by simp [topA, proto]⟩
theorem parse_code {c : Int} (h : codeB c = true) (m : Int) (hm : 599 ≤ m) : parseNum (Lib.decDigits c.toNat) m = (c, true) := by
  obtain ⟨h0, h1, h2⟩ := dec3 h
  rw [parse_dec _ _ (by omega) (by omega), ← h0]
theorem parse_len {n : Nat} (h : n ≤ 400) : parseNum (Lib.decDigits n) 400 = ((n : Int), true) := parse_dec _ _ (by omega) (by omega)
/-- A head's line, cut at its first ': '. -/
theorem cut_line {h : Hd} (hc : 58 ∉ h.1.data.toList) : cutS [58, 32] (hdLine h) = some (h.1.data.toList, h.2.data.toList) := by
  exact cutS_word (c := 58) (p := [32]) hc
theorem lenH_no {n : Nat} : 58 ∉ (lenH n).1.data.toList := by show 58 ∉ lenName.data.toList; unfold lenName; decide
theorem cut_hdLine {h k : Hd} (hc : 58 ∉ h.1.data.toList) (kc : 58 ∉ k.1.data.toList) (e : hdLine h = hdLine k) : h = k := by
  have h1 := cut_line hc
  have h2 := cut_line kc
  rw [e, h2] at h1
  have h3 := Option.some.inj h1
  have a := congrArg Prod.fst h3
  have b := congrArg Prod.snd h3
  simp only at a b
  refine Prod.ext ?_ ?_
  · rw [← bytesOf_self h.1, ← bytesOf_self k.1, a]
  · rw [← bytesOf_self h.2, ← bytesOf_self k.2, b]
theorem map_hdLine : ∀ {hs ks : List Hd}, (∀ x ∈ hs, 58 ∉ x.1.data.toList) → (∀ x ∈ ks, 58 ∉ x.1.data.toList) → hs.map hdLine = ks.map hdLine → hs = ks := by
  intro hs
  induction hs with
  | nil => intro ks _ _ e; cases ks with
    | nil => rfl
    | cons _ _ => cases e
  | cons x hs ih =>
    intro ks h1 h2 e
    cases ks with
    | nil => cases e
    | cons y ks =>
      simp only [List.map_cons, List.cons.injEq] at e
      rw [cut_hdLine (h1 x (by simp)) (h2 y (by simp)) e.1, ih (fun z hz => h1 z (by simp [hz])) (fun z hz => h2 z (by simp [hz])) e.2]
/-- There is one answer at most ahead of bytes. -/
theorem RespAt.one {r s : Rs} {l : List UInt8} (h : RespAt r l) (k : RespAt s l) : r = s := by
  have h1 := h.idx
  have k1 := k.idx
  have hlen : (frontA r).length = (frontA s).length := by omega
  have h2 := h.lines
  have k2 := k.lines
  rw [hlen, k2] at h2
  unfold linesA at h2
  obtain ⟨c1, g1, _, z1⟩ := resp_hds h.1
  obtain ⟨c2, g2, _, z2⟩ := resp_hds k.1
  simp only [List.cons.injEq] at h2
  obtain ⟨e1, e2⟩ := h2
  have e3 : (s.hs ++ [lenH s.b.size]).map hdLine = (r.hs ++ [lenH r.b.size]).map hdLine := by simpa using e2
  have n1 : ∀ x ∈ s.hs ++ [lenH s.b.size], 58 ∉ x.1.data.toList := fun x hx => by
    rcases List.mem_append.1 hx with hx | hx
    · exact (hd_facts (free_hd (g2 x hx)).1).2.1
    · obtain rfl := List.mem_singleton.1 hx; exact lenH_no
  have n2 : ∀ x ∈ r.hs ++ [lenH r.b.size], 58 ∉ x.1.data.toList := fun x hx => by
    rcases List.mem_append.1 hx with hx | hx
    · exact (hd_facts (free_hd (g1 x hx)).1).2.1
    · obtain rfl := List.mem_singleton.1 hx; exact lenH_no
  have e4 := map_hdLine n1 n2 e3
  have e5 := List.append_inj' e4 rfl
  have e6 : lenH s.b.size = lenH r.b.size := by simpa using e5.2
  have e7 : Lib.decDigits s.b.size = Lib.decDigits r.b.size := by
    have := congrArg (fun x : Hd => x.2.data.toList) e6
    simpa [lenH, bytesOf] using this
  have e8 : r.b.size = s.b.size := by
    have p1 := parse_len z1
    have p2 := parse_len z2
    rw [e7, p1] at p2
    have := congrArg Prod.fst p2
    simp only at this
    omega
  have e9 : r.c = s.c := by
    have p1 := parse_code c1 599 (by omega)
    have p2 := parse_code c2 599 (by omega)
    have t1 := (topA_len c1).2.2
    have t2 := (topA_len c2).2.2
    rw [← e1, t2] at t1
    rw [← t1, p2] at p1
    exact (congrArg Prod.fst p1).symm
  have e10 : r.b = s.b := by
    have b1 := h.body.2.1
    have b2 := k.body.2.1
    rw [hlen, e8, b2] at b1
    rw [← bytesOf_self r.b, ← bytesOf_self s.b, b1]
  cases r
  cases s
  simp only at e9 e10 e5
  rw [e9, e10, e5.1]
open Classical in
/-- What GetResp answers. -/
noncomputable def getA (l : List UInt8) : Rs × Nat × Bool := if h : ∃ r, RespAt r l then (h.choose, (putA h.choose).length, true) else (zeroA, 0, false)
theorem getA_yes {r : Rs} {l : List UInt8} (h : RespAt r l) : getA l = (r, (putA r).length, true) := by
  have hx : ∃ r, RespAt r l := ⟨r, h⟩
  unfold getA
  rw [dif_pos hx, hx.choose_spec.one h]
theorem getA_no {l : List UInt8} (h : ∀ r, ¬ RespAt r l) : getA l = (zeroA, 0, false) := by
  unfold getA
  rw [dif_neg (fun ⟨r, hr⟩ => h r hr)]
theorem respAt_pre {r : Rs} {l : List UInt8} (h : respB r = true) (hp : (putA r).isPrefixOf l = true) : RespAt r l := by
  rw [List.isPrefixOf_iff_prefix] at hp
  obtain ⟨q, e⟩ := hp
  exact ⟨h, q, e.symm⟩
/-- What is left where k heads are read. -/
def leftA (r : Rs) (k : Nat) (q : List UInt8) : List UInt8 := hdsTxt (r.hs.drop k) ++ (hdTxt (lenH r.b.size) ++ (crlf ++ (r.b.data.toList ++ q)))
theorem RespAt.cut0 {r : Rs} {l : List UInt8} (h : RespAt r l) : ∃ q, cutS [32] l = some (proto, Lib.decDigits r.c.toNat ++ (crlf ++ leftA r 0 q)) ∧ cutS crlf (Lib.decDigits r.c.toNat ++ (crlf ++ leftA r 0 q)) = some (Lib.decDigits r.c.toNat, leftA r 0 q) := by
  obtain ⟨h1, q, rfl⟩ := h
  refine ⟨q, ?_, cutS_word (c := 13) (p := [10]) (dec_no13 _).1⟩
  have := cutS_word (c := 32) (p := []) (a := proto) (b := Lib.decDigits r.c.toNat ++ (crlf ++ leftA r 0 q)) (by decide)
  rw [← this, putA_of h1]
  simp [frontA, linesTxt, topA, leftA, hdsTxt]
theorem leftA_cut {r : Rs} (h : respB r = true) (k : Nat) (hk : k < r.hs.length) (q : List UInt8) : cutS [58, 32] (leftA r k q) = some ((r.hs[k]).1.data.toList, (r.hs[k]).2.data.toList ++ (crlf ++ leftA r (k + 1) q)) ∧ cutS crlf ((r.hs[k]).2.data.toList ++ (crlf ++ leftA r (k + 1) q)) = some ((r.hs[k]).2.data.toList, leftA r (k + 1) q) ∧ ¬ (r.hs[k]).1 = lenName := by
  obtain ⟨_, g, _⟩ := resp_hds h
  obtain ⟨f1, f2, _⟩ := free_hd (g _ (List.getElem_mem hk))
  obtain ⟨_, n1, _, _, n2, _⟩ := hd_facts f1
  refine ⟨?_, cutS_word (c := 13) (p := [10]) n2, f2⟩
  have := cutS_word (c := 58) (p := [32]) (a := (r.hs[k]).1.data.toList) (b := (r.hs[k]).2.data.toList ++ (crlf ++ leftA r (k + 1) q)) n1
  rw [← this]
  unfold leftA
  have e : hdsTxt (r.hs.drop k) = hdTxt r.hs[k] ++ hdsTxt (r.hs.drop (k + 1)) := by
    unfold hdsTxt
    rw [List.drop_eq_getElem_cons hk, List.flatMap_cons]
  rw [e]
  simp only [hdTxt, List.append_assoc]
theorem leftA_last (r : Rs) (q : List UInt8) : cutS [58, 32] (leftA r r.hs.length q) = some (lenName.data.toList, Lib.decDigits r.b.size ++ (crlf ++ (crlf ++ (r.b.data.toList ++ q)))) ∧ cutS crlf (Lib.decDigits r.b.size ++ (crlf ++ (crlf ++ (r.b.data.toList ++ q)))) = some (Lib.decDigits r.b.size, crlf ++ (r.b.data.toList ++ q)) := by
  refine ⟨?_, cutS_word (c := 13) (p := [10]) (dec_no13 _).1⟩
  have := cutS_word (c := 58) (p := [32]) (a := lenName.data.toList) (b := Lib.decDigits r.b.size ++ (crlf ++ (crlf ++ (r.b.data.toList ++ q)))) (by decide)
  rw [← this]
  unfold leftA
  rw [List.drop_of_length_le (Nat.le_refl _)]
  simp [hdsTxt, hdTxt, lenH, bytesOf]
end Go.Proofs.YtanebchmeaomgaaGreatDoor.M
namespace Go.Proofs.YtanebchmeaomgaaGreatDoor.M

theorem low_kind : ∀ n : Fin 256, anyB ((UInt8.ofNat n.val).toNat : Int) [2, 4, 7] = true → lowB (UInt8.ofNat n.val) = UInt8.ofNat n.val := by decide +kernel
theorem low_sm {l : List UInt8} (h : allB l [2, 4, 7] = true) : lowL l = l := by
  unfold lowL
  rw [show l.map lowB = l.map id from List.map_congr_left fun c hc => ?_, List.map_id]
  have h1 : anyB (c.toNat : Int) [2, 4, 7] = true := by
    have := List.all_eq_true.1 h c hc
    simpa using this
  have h2 := low_kind ⟨c.toNat, c.toNat_lt⟩
  simp only [UInt8.ofNat_toNat] at h2
  exact h2 h1
theorem headS_line {h : Hd} (hb : hdB h = true) : headS (hdLine h) = some h := by
  obtain ⟨h1, h2, _, _, _, h6⟩ := hd_facts hb
  have hc : cut1 58 (hdLine h) = some (h.1.data.toList, 32 :: h.2.data.toList) := cut1_some.2 ⟨by simp [hdLine], h2⟩
  have hm : mkH h.1.data.toList (32 :: h.2.data.toList) = h := by
    unfold mkH
    rw [low_sm (sm_all h1).1, trimL_front 32 _ (by decide), h6]
    exact Prod.ext (bytesOf_self _) (bytesOf_self _)
  unfold headS
  rw [hc]
  simp only
  rw [hm, if_pos hb]
theorem headsS_lines : ∀ hs : List Hd, (∀ x ∈ hs, hdB x = true) → headsS (hs.map hdLine) = some hs := by
  intro hs
  induction hs with
  | nil => intro _; rfl
  | cons x hs ih =>
    intro h
    rw [List.map_cons, headsS, headS_line (h x (by simp))]
    simp only
    rw [ih (fun y hy => h y (by simp [hy]))]
    rfl
def topR (r : Rq) : List UInt8 := r.m.data.toList ++ (32 :: (r.p.data.toList ++ (32 :: proto)))
def linesR (r : Rq) (ts : List Hd) : List (List UInt8) := topR r :: (r.hs ++ ts).map hdLine
theorem frontL_flat (r : Rq) (ts : List Hd) : frontL r (hdsTxt ts) = flatE (linesR r ts) ++ [13, 10] := by
  unfold frontL linesR
  rw [flatE_cons, hdsTxt_flat, hdsTxt_flat]
  simp [flatE, crlf, topTxt, topR]
theorem req_parts {r : Rq} (h : reqB r = true) : methB r.m = true ∧ targB r.p = true ∧ (∀ x ∈ r.hs, hdFree x = true) ∧ r.hs.length ≤ 8 ∧ r.b.size ≤ 200 := by
  simp only [reqB, hdsB, Bool.and_eq_true, decide_eq_true_eq, List.all_eq_true] at h
  exact ⟨h.1, h.2.1, h.2.2.1.1, h.2.2.1.2, h.2.2.2⟩
theorem linesR_ok {r : Rq} {ts : List Hd} (h : reqB r = true) (ht : ∀ x ∈ ts, hdB x = true) : ∀ x ∈ linesR r ts, lineOk x := by
  obtain ⟨h1, h2, h3, _⟩ := req_parts h
  rw [← bytesOf_self r.m] at h1
  rw [← bytesOf_self r.p] at h2
  obtain ⟨a1, _, a3⟩ := meth_no h1
  obtain ⟨b1, _, _⟩ := targ_no h2
  intro x hx
  rcases List.mem_cons.1 hx with rfl | hx
  · refine ⟨fun e => a3 (List.append_eq_nil_iff.1 e).1, fun e => ?_⟩
    rcases List.mem_append.1 e with e | e
    · exact a1 e
    · rcases List.mem_cons.1 e with e | e
      · cases e
      · rcases List.mem_append.1 e with e | e
        · exact b1 e
        · revert e; decide
  · obtain ⟨y, hy, rfl⟩ := List.mem_map.1 hx
    rcases List.mem_append.1 hy with hy | hy
    · exact hdLine_ok (free_hd (h3 y hy)).1
    · exact hdLine_ok (ht y hy)
theorem readI_lines {r : Rq} {ts : List Hd} (h : reqB r = true) (ht : ∀ x ∈ ts, hdB x = true) : readI (flatE (linesR r ts)) = some (r.m, r.p, r.hs ++ ts) := by
  obtain ⟨h1, h2, h3, _⟩ := req_parts h
  have h1' := h1
  have h2' := h2
  rw [← bytesOf_self r.m] at h1'
  rw [← bytesOf_self r.p] at h2'
  obtain ⟨_, a2, _⟩ := meth_no h1'
  obtain ⟨_, b2, _⟩ := targ_no h2'
  have hall : ∀ x ∈ r.hs ++ ts, hdB x = true := fun x hx => by
    rcases List.mem_append.1 hx with hx | hx
    · exact (free_hd (h3 x hx)).1
    · exact ht x hx
  have hno : ∀ l ∈ (r.hs ++ ts).map hdLine, noEnd l := fun l hl => noEnd_of (linesR_ok h ht l (List.mem_cons_of_mem _ hl)).2
  unfold linesR
  rw [flatE_cons]
  have c1 : cut1 32 (topR r ++ 13 :: 10 :: flatE ((r.hs ++ ts).map hdLine)) = some (r.m.data.toList, r.p.data.toList ++ 32 :: (proto ++ 13 :: 10 :: flatE ((r.hs ++ ts).map hdLine))) := cut1_some.2 ⟨by simp [topR], a2⟩
  have c2 : cut1 32 (r.p.data.toList ++ 32 :: (proto ++ 13 :: 10 :: flatE ((r.hs ++ ts).map hdLine))) = some (r.p.data.toList, proto ++ 13 :: 10 :: flatE ((r.hs ++ ts).map hdLine)) := cut1_some.2 ⟨rfl, b2⟩
  have c3 : cut2 (proto ++ 13 :: 10 :: flatE ((r.hs ++ ts).map hdLine)) = some (proto, flatE ((r.hs ++ ts).map hdLine)) := cut2_app _ (noEnd_of (by decide))
  unfold readI
  rw [c1]
  simp only
  rw [if_pos h1', c2]
  simp only
  rw [if_pos h2', c3]
  simp only
  rw [if_pos trivial, headsI_lines _ _ hno (Nat.lt_succ_self _), headsS_lines _ hall]
  simp [bytesOf_self]
theorem front_end {r : Rq} {ts : List Hd} (h : reqB r = true) (ht : ∀ x ∈ ts, hdB x = true) (h4 : (frontL r (hdsTxt ts)).length ≤ 400) (q : List UInt8) : heL (frontL r (hdsTxt ts) ++ q) = ((frontL r (hdsTxt ts)).length : Int) := by
  obtain ⟨n, h1, h2⟩ := idx_lines q (linesR r ts) (by simp [linesR]) (linesR_ok h ht)
  have e : frontL r (hdsTxt ts) ++ q = flatE (linesR r ts) ++ (13 :: 10 :: q) := by rw [frontL_flat]; simp
  have hl : (frontL r (hdsTxt ts)).length = n + 4 := by rw [frontL_flat]; simp; omega
  rw [← e] at h1
  have h5 := idx_here (j := 400) h1 (by omega)
  unfold heL
  rw [h5, if_pos (by omega), hl]
  omega
theorem front_read {r : Rq} {ts : List Hd} (h : reqB r = true) (ht : ∀ x ∈ ts, hdB x = true) (q : List UInt8) : readI ((frontL r (hdsTxt ts) ++ q).take ((frontL r (hdsTxt ts)).length - 2)) = some (r.m, r.p, r.hs ++ ts) := by
  have : (frontL r (hdsTxt ts) ++ q).take ((frontL r (hdsTxt ts)).length - 2) = flatE (linesR r ts) := by
    rw [frontL_flat]; simp
  rw [this, readI_lines h ht]
theorem lens_free {hs : List Hd} (h : ∀ x ∈ hs, hdFree x = true) : lensOf hs = [] ∧ codsOf hs = [] ∧ othOf hs = hs := by
  refine ⟨List.filter_eq_nil_iff.2 fun x hx => ?_, List.filter_eq_nil_iff.2 fun x hx => ?_, List.filter_eq_self.2 fun x hx => ?_⟩
  · simp [(free_hd (h x hx)).2.1]
  · simp [(free_hd (h x hx)).2.2]
  · simp [(free_hd (h x hx)).2.1, (free_hd (h x hx)).2.2]
theorem lens_app (a b : List Hd) : lensOf (a ++ b) = lensOf a ++ lensOf b ∧ codsOf (a ++ b) = codsOf a ++ codsOf b ∧ othOf (a ++ b) = othOf a ++ othOf b := by simp [lensOf, codsOf, othOf]
theorem val_dec {n : Nat} (h : n ≤ 9999999) : hdB (lenH n) = true := by
  obtain ⟨_, h2, h3, _⟩ := dec_back n n (Nat.le_refl _)
  have h5 := dec_len 6 n (by omega)
  have hk : ∀ c ∈ Lib.decDigits n, 48 ≤ c.toNat ∧ c.toNat ≤ 57 := fun c hc => by
    have := List.all_eq_true.1 h2 c hc
    simp [anyB, isB] at this
    omega
  have hb : ∀ c ∈ Lib.decDigits n, bl c = false := fun c hc => by
    have := hk c hc
    simp [bl, isB]
    omega
  have hp : allB (Lib.decDigits n) [0] = true := List.all_eq_true.2 fun c hc => by
    have := hk c hc
    simp [anyB, isB]
    omega
  have ht : trimL (Lib.decDigits n) = Lib.decDigits n := trimL_done _ (by omega) (hb _ (List.getElem_mem _)) (hb _ (List.getElem_mem _))
  have hz : (bytesOf (Lib.decDigits n)).size = (Lib.decDigits n).length := by simp [bytesOf, ByteArray.size]
  have h7 : smB lenName.data.toList = true := by decide
  unfold hdB valB
  rw [Bool.and_eq_true, Bool.and_eq_true, Bool.and_eq_true, decide_eq_true_eq, decide_eq_true_eq]
  refine ⟨h7, ?_, hp, ht⟩
  show (bytesOf (Lib.decDigits n)).size ≤ 60
  omega
def chkH : Hd := (codName, ⟨#[99, 104, 117, 110, 107, 101, 100]⟩)
theorem chkH_ok : hdB chkH = true ∧ codOk chkH = true ∧ lensOf [chkH] = [] ∧ codsOf [chkH] = [chkH] ∧ othOf [chkH] = [] := by decide +kernel
theorem lenH_parts (n : Nat) : lensOf [lenH n] = [lenH n] ∧ codsOf [lenH n] = [] ∧ othOf [lenH n] = [] := by
  refine ⟨?_, ?_, ?_⟩
  · simp [lensOf, lenH]
  · have : ¬ lenName = codName := by decide
    simp [codsOf, lenH, this]
  · simp [othOf, lenH]
theorem lenH_num {n : Nat} (h : n ≤ 9999999) : numOk (lenH n) = true ∧ numOf (lenH n) = n := by
  have := parse_dec n 9999999 (by omega) (by omega)
  have e : (lenH n).2.data.toList = Lib.decDigits n := rfl
  unfold numOk numOf
  rw [e, this]
  exact ⟨rfl, by simp⟩
/-- A request comes back of what stands ahead of its body and of its body. -/
theorem round_any {r : Rq} {ts : List Hd} {rest : List UInt8} {n : Nat} (h : reqB r = true) (ht : ∀ x ∈ ts, hdB x = true) (h4 : (frontL r (hdsTxt ts)).length ≤ 400) (hf : frameC (r.hs ++ ts) = 0) (ho : othOf ts = [])
    (hb : bodyL (frontL r (hdsTxt ts) ++ rest) (frontL r (hdsTxt ts)).length (r.hs ++ ts) = (r.b.data.toList, n, 0)) : getR (frontL r (hdsTxt ts) ++ rest) = (r, n, 0) := by
  have he := front_end h ht h4 rest
  have hr := front_read h ht rest
  have e2 : (heL (frontL r (hdsTxt ts) ++ rest)).toNat = (frontL r (hdsTxt ts)).length := by rw [he]; simp
  rw [← e2] at hr hb
  have := getR_good (by rw [he]; omega) hr hf (by rw [hb])
  rw [this, hb, (lens_app _ _).2.2, ho, List.append_nil, (lens_free (req_parts h).2.2.1).2.2, bytesOf_self]
theorem bodyLine_ts (b : ByteArray) : bodyLine b = hdsTxt (if b.size = 0 then [] else [lenH b.size]) := by
  unfold bodyLine
  split
  · rfl
  · simp [hdsTxt, lenLine, hdTxt, lenTag, lenH, lenName, bytesOf]
/-- A request comes back of its bytes, whatever stands behind. -/
theorem putL_back {r : Rq} (h : putL r ≠ []) (q : List UInt8) : reqB r = true ∧ getR (putL r ++ q) = (r, (putL r).length, 0) := by
  unfold putL put0 at h ⊢
  rw [bodyLine_ts] at h ⊢
  by_cases hc : reqB r = true ∧ (frontL r (hdsTxt (if r.b.size = 0 then [] else [lenH r.b.size]))).length ≤ 400
  · rw [if_pos hc]
    refine ⟨hc.1, ?_⟩
    obtain ⟨_, _, p3, p4, p5⟩ := req_parts hc.1
    obtain ⟨f1, f2, f3⟩ := lens_free p3
    have eb : r.b.data.toList.length = r.b.size := Array.length_toList
    rw [List.append_assoc]
    by_cases hz : r.b.size = 0
    · rw [if_pos hz] at hc ⊢
      have h0 : r.b.data.toList = [] := List.length_eq_zero_iff.1 (by omega)
      refine round_any hc.1 (by simp) hc.2 ?_ rfl ?_
      · rw [List.append_nil]; unfold frameC; simp [f1, f2, f3]; omega
      · rw [List.append_nil]
        unfold bodyL chkF lenF
        rw [f1, f2, h0]
        simp
    · rw [if_neg hz] at hc ⊢
      obtain ⟨g1, g2, g3⟩ := lenH_parts r.b.size
      obtain ⟨n1, n2⟩ := lenH_num (n := r.b.size) (by omega)
      refine round_any hc.1 (by intro x hx; obtain rfl := List.mem_singleton.1 hx; exact val_dec (by omega)) hc.2 ?_ g3 ?_
      · unfold frameC
        rw [(lens_app _ _).1, (lens_app _ _).2.1, (lens_app _ _).2.2, f1, f2, f3, g1, g2, g3]
        simp [n1, n2]
        omega
      · unfold bodyL chkF lenF
        rw [(lens_app _ _).1, (lens_app _ _).2.1, f1, f2, g1, g2]
        simp only [List.nil_append, List.isEmpty_nil, Bool.not_true, n2]
        rw [if_neg (by decide), if_neg (by simp [eb]), List.drop_left' rfl, List.take_left' eb]
        simp [eb]
  · rw [if_neg hc] at h
    exact absurd rfl h
/-- A request comes back of its bytes in pieces, whatever stands behind. -/
theorem putC_back {r : Rq} {ns : List Int} (h : put0 r (hdsTxt [chkH]) (putCs ns r.b.data.toList) ≠ []) (q : List UInt8) : reqB r = true ∧ getR (put0 r (hdsTxt [chkH]) (putCs ns r.b.data.toList) ++ q) = (r, (put0 r (hdsTxt [chkH]) (putCs ns r.b.data.toList)).length, 0) := by
  unfold put0 at h ⊢
  by_cases hc : reqB r = true ∧ (frontL r (hdsTxt [chkH])).length ≤ 400
  · rw [if_pos hc]
    refine ⟨hc.1, ?_⟩
    obtain ⟨_, _, p3, p4, p5⟩ := req_parts hc.1
    obtain ⟨f1, f2, f3⟩ := lens_free p3
    have eb : r.b.data.toList.length = r.b.size := Array.length_toList
    obtain ⟨k1, k2, g1, g2, g3⟩ := chkH_ok
    rw [List.append_assoc]
    refine round_any hc.1 (by intro x hx; obtain rfl := List.mem_singleton.1 hx; exact k1) hc.2 ?_ g3 ?_
    · unfold frameC
      rw [(lens_app _ _).1, (lens_app _ _).2.1, (lens_app _ _).2.2, f1, f2, f3, g1, g2, g3]
      simp [k2]
      omega
    · have := chunks_back (frontL r (hdsTxt [chkH])) q ns r.b.data.toList (by omega)
      unfold bodyL chkF
      rw [(lens_app _ _).2.1, f2, g2]
      simp only [List.nil_append, List.isEmpty_cons, Bool.not_false, if_true]
      rw [this]
      simp
  · rw [if_neg hc] at h
    exact absurd rfl h
end Go.Proofs.YtanebchmeaomgaaGreatDoor.M
namespace Go.Proofs.YtanebchmeaomgaaGreatDoor
open Go.RowKit M
set_option linter.unusedVariables false

/-- How many bytes are not yet read. -/
def unreadLen (w : World) (N : Nat) : Nat := match w.cell? ⟨N, 0, none⟩ with | some (.slice _ n _) => n | _ => 0
theorem WireEx.unread {w : World} {N B : Nat} {uv rv : Value} {l : List UInt8} {bad : Int} {qs : List Rv} (h : WireEx w N B uv l bad rv qs) : unreadLen w N = l.length := by
  obtain ⟨a, c, rfl, _⟩ := h.buf.slice
  unfold unreadLen
  rw [(box3 h.box).1]
theorem WireEx.next {w w' : World} {N B : Nat} {uv rv : Value} {l : List UInt8} {bad : Int} {qs : List Rv} (h : WireEx w N B uv l bad rv qs) (hb : Below w.heap.size w w') : WireEx w' N B uv l bad rv qs :=
  ⟨(hb.block N h.lt).trans h.box, h.buf.next hb, h.row.next hb, h.apart, h.sep⟩
/-- One request more. -/
theorem WireEx.pushed {w w4 : World} {N B : Nat} {uv rv : Value} {l : List UInt8} {bad : Int} {qs : List Rv} {q : Rv} {g cap : Nat} (h : WireEx w N B uv l bad rv qs) (hBN : B ≤ N)
    (ho : RowsQ w4 B (.slice (some ⟨g, 0, none⟩) (qs.length + 1) cap) (qs ++ [q])) (hg : w.grownBy w4 rv.ownBlock) (hwh : rv.ownBlock = some g ∨ g = w.heap.size) (hq : ∀ x, uv.ownBlock = some x → q.2.ownBlock ≠ some x) (hqN : q.2.ownBlock ≠ some N) :
    w4.heap[N]? = some (Obj.cells #[uv, .int .i64 bad, rv] 114) ∧ WireEx (w4.setCell ⟨N, 2, none⟩ (.slice (some ⟨g, 0, none⟩) (qs.length + 1) cap)) N B uv l bad (.slice (some ⟨g, 0, none⟩) (qs.length + 1) cap) (qs ++ [q]) ∧ Below B w (w4.setCell ⟨N, 2, none⟩ (.slice (some ⟨g, 0, none⟩) (qs.length + 1) cap)) := by
  have hb4 : w4.heap[N]? = some (Obj.cells #[uv, .int .i64 bad, rv] 114) := (hg.block N h.lt (fun e => h.sep.r e.symm)).trans h.box
  have hgN : g ≠ N := by
    rintro rfl
    rcases hwh with e | e
    · exact h.sep.r e
    · have := h.lt; omega
  have sp : SepN N uv (.slice (some ⟨g, 0, none⟩) (qs.length + 1) cap) (qs ++ [q]) := ⟨h.sep.u, fun e => hgN (Option.some.inj e), fun p hp => by
    rcases List.mem_append.1 hp with hp | hp
    · exact h.sep.q p hp
    · simp at hp; subst hp; exact hqN⟩
  refine ⟨hb4, ⟨set_heap hb4 2 _, ?_, ho.of (fun x hx => Below.heap_setCell _ _ _ _ (sp.row x hx)), fun x hx => ⟨fun e => ?_, fun p hp => ?_⟩, sp⟩, ?_⟩
  · refine h.buf.of (fun x hx => ?_)
    have hx2 := h.buf.lt x hx
    rw [Below.heap_setCell _ _ _ _ (show x ≠ N from fun e => h.sep.u (by rw [hx, e]))]
    exact hg.block x hx2.2 (fun e => (h.apart x hx).1 e.symm)
  · have e' : g = x := Option.some.inj e
    subst e'
    rcases hwh with e | e
    · exact (h.apart g hx).1 e
    · have := (h.buf.lt g hx).2; omega
  · rcases List.mem_append.1 hp with hp | hp
    · exact (h.apart x hx).2 p hp
    · simp at hp; subst hp; exact hq x hx
  · exact (Below.grown (Below.refl B w) hg (by have := h.lt; omega) (fun k hk => (h.row.lt k (.inl hk)).1)).setCell (p := ⟨N, 2, none⟩) hBN _

set_option maxRecDepth 100000 in
set_option maxHeartbeats 4000000 in
theorem read_any (N B : Nat) (w : World) (l : List UInt8) (rs : List Rq) (mx : Int) (h : WireSt w N B l 0 rs) (hBN : B ≤ N) (hl : l.length ≤ 4194304) (hr : rs.length + l.length ≤ 100000000) (h0 : 0 < B) (hmx : w.cell? ⟨0, 0, none⟩ = some (.int .i64 mx)) :
    Calls Tryz.prog 77 #[.pointer (some ⟨N, 0, none⟩)] w fun e w' => (∃ v, e = .returned v) ∧ WireSt w' N B (drainL l).2.1 (drainL l).2.2 (rs ++ (drainL l).1) ∧ Below B w w' := by
  obtain ⟨uv, rv, qs, hE, hqs⟩ := h.ex
  have HE := hide hE
  have hql : qs.length = rs.length := by rw [← hqs, List.length_map]
  have HM := hide (fun (W : World) (hb : Below B w W) => (hb.cell (p := ⟨0, 0, none⟩) h0).trans hmx)
  subst hqs
  clear h hE hmx
  go_enter Tryz.func77, Tryz.ntmps77
  go_wp2
  go_loopw [] (fun wr => ∃ (uv rv : Value) (l' : List UInt8) (ps : List Rv), WireEx wr N B uv l' 0 rv ps ∧ ps.map Prod.fst ++ (drainL l').1 = qs.map Prod.fst ++ (drainL l).1 ∧ (drainL l').2 = (drainL l).2 ∧ ps.length + l'.length ≤ 100000000 ∧ l'.length ≤ 4194304 ∧ Below B w wr) (fun wr => unreadLen wr N)
  case atStart => exact ⟨uv, rv, l, qs, HE.out, rfl, rfl, by rw [hql]; simpa using hr, hl, Below.refl _ _⟩
  case round =>
    clear HE hql hr
    obtain ⟨uv, rv, l', ps, hE, hd1, hd2, hpl, hll, hbe⟩ := hrel
    have hN := hE.lt
    have HU := hide hE.unread
    have HT := hide (take_any N B wr uv rv l' 0 ps mx hE hBN hll (by omega) (HM.out wr hbe))
    have hgood : (getR l').2.2 = 0 → 0 < (getR l').2.1 ∧ (getR l').2.1 ≤ l'.length ∧ (getR l').1.hs.length ≤ 8 := fun hc => ⟨getR_pos hc, (getR_ok hc).2, (req_parts (getR_ok hc).1).2.2.2.1⟩
    have HGood := hide (fun hc => drain_good (l := l') hc)
    have HMore := hide (fun hc => drain_more (l := l') hc)
    have HBad := hide (fun hc hc' => drain_bad (l := l') hc hc')
    have HZero := hide (fun hc => (getR_bad (l := l') hc).2)
    obtain ⟨R, n, C, hR⟩ : ∃ R n C, getR l' = (R, n, C) := ⟨_, _, _, rfl⟩
    rw [hR] at HT hgood HGood HMore HBad HZero
    have HE := hide hE
    have HD1 := hide hd1
    have HD2 := hide hd2
    have HBe := hide hbe
    clear hE hd1 hd2 hbe hR
    go_wp2_with fail
    refine HT.out.mono ?_
    rintro e w1 ⟨⟨hv, rfl, hrow⟩, ⟨uv1, E1, hsame⟩, b1⟩
    obtain ⟨ah, ch, rfl, hdd⟩ := RowsH.hds hrow
    have hN1 := E1.lt
    obtain ⟨ar, cr, hrv, _⟩ := E1.row.rqs
    subst hrv
    obtain ⟨w2, hw2⟩ : ∃ w2, w1.alloc (Obj.cells #[.string R.m, .string R.p, .slice ah R.hs.length ch, .string R.b] 39) = w2 := ⟨_, rfl⟩
    have b2 : Below w1.heap.size w1 w2 := by rw [← hw2]; exact (Below.refl _ _).alloc (Nat.le_refl _) _
    have r2 : w2.heap[w1.heap.size]? = some (Obj.cells #[.string R.m, .string R.p, .slice ah R.hs.length ch, .string R.b] 39) := by rw [← hw2]; exact heap_alloc_new w1 _
    have s2 : w1.heap.size < w2.heap.size := by rw [← hw2]; simp
    have E2 := E1.next b2
    have c2 : Below B w w2 := (HBe.out.trans b1).trans (b2.mono (by omega))
    obtain ⟨x0, x1, x2, f0, f1, f2⟩ := box3 E2.box
    obtain ⟨p0, p1, p2, p3, _, _, _, _⟩ := ReqB.cells r2
    have hblk : ∀ x, (Value.slice ah R.hs.length ch).ownBlock = some x → wr.heap.size ≤ x := fun x hx => (RowsH.lt hrow x hx).1
    have hapU : ∀ x, uv1.ownBlock = some x → (Value.slice ah R.hs.length ch).ownBlock ≠ some x := fun x hx e => by
      have h1 := hblk x e
      have h2 := (HE.out.buf.lt x (hsame x hx)).2
      omega
    have hapR : ∀ v : Value, (∀ x, v.ownBlock = some x → x < wr.heap.size) → ApartV v (.slice ah R.hs.length ch) := fun v hv => by
      cases e : v.ownBlock with
      | none => exact .inl e
      | some x =>
        right
        intro e2
        have h1 := hblk x (by rw [← e2, e])
        have h2 := hv x e
        omega
    have hhN : (Value.slice ah R.hs.length ch).ownBlock ≠ some N := fun e => by have := hblk N e; omega
    have HHN := hide hhN
    have hrow2 : RowsH w2 B (.slice ah R.hs.length ch) R.hs := RowsH.base (ownsH_below hrow b2) (by omega)
    have hqa := hapR _ (fun x hx => (HE.out.row.lt x (.inl hx)).2)
    have hqs : ∀ p ∈ ps, ApartV p.2 (.slice ah R.hs.length ch) := fun p hp => hapR _ (fun x hx => (HE.out.row.lt x (.inr ⟨p, hp, hx⟩)).2)
    have EE := hide E2
    have HR2 := hide hrow2
    have HQA := hide hqa
    have HQS := hide hqs
    have HAU := hide hapU
    have HC2 := hide c2
    clear hhN HT hrow hdd b1 b2 r2 E1 E2 c2 hblk hapU hapR hrow2 hqa hqs hsame f0
    by_cases hC : C = 0
    · subst hC
      obtain ⟨hn1, hn2, hn3⟩ := hgood rfl
      have hDr := HGood.out rfl
      have HDr := hide hDr
      have bD : Below w2.heap.size w2 (w2.alloc (Obj.cells #[.string R.m, .string R.p, .slice ah R.hs.length ch, .string R.b] 39)).drew := ((Below.refl w2.heap.size w2).alloc (Nat.le_refl _) _).drew
      have x2a : (w2.alloc (Obj.cells #[.string R.m, .string R.p, .slice ah R.hs.length ch, .string R.b] 39)).cell? ⟨N, 2, none⟩ = some (.slice ar ps.length cr) := (bD.cell (p := ⟨N, 2, none⟩) (show N < w2.heap.size by omega)).trans x2
      have ED := hide (EE.out.next bD)
      have HRD := hide (ownsH_below HR2.out bD)
      have HCD := hide (HC2.out.trans (bD.mono (by omega)))
      have hlen1 : ps.length + 1 ≤ 1000000000 := by omega
      have hz3 : B ≤ (w2.alloc (Obj.cells #[.string R.m, .string R.p, .slice ah R.hs.length ch, .string R.b] 39)).drew.heap.size := by simp; omega
      have k0 : (w2.alloc (Obj.cells #[.string R.m, .string R.p, .slice ah R.hs.length ch, .string R.b] 39)).drew.cell? ⟨w2.heap.size, 0, none⟩ = some (.string R.m) := by simp
      have k1 : (w2.alloc (Obj.cells #[.string R.m, .string R.p, .slice ah R.hs.length ch, .string R.b] 39)).drew.cell? ⟨w2.heap.size, 1, none⟩ = some (.string R.p) := by simp
      have k2 : (w2.alloc (Obj.cells #[.string R.m, .string R.p, .slice ah R.hs.length ch, .string R.b] 39)).drew.cell? ⟨w2.heap.size, 2, none⟩ = some (.slice ah R.hs.length ch) := by simp
      have k3 : (w2.alloc (Obj.cells #[.string R.m, .string R.p, .slice ah R.hs.length ch, .string R.b] 39)).drew.cell? ⟨w2.heap.size, 3, none⟩ = some (.string R.b) := by simp
      have K0 := hide k0
      have K1 := hide k1
      have K2 := hide k2
      have K3 := hide k3
      clear hgood HGood HMore HBad HZero hDr bD k0 k1 k2 k3
      go_wp2_with fail
      go_region_law (refine step_append_req rfl _ _ rfl B (.slice ar ps.length cr) ps rfl ED.out.row w2.heap.size (R, .slice ah R.hs.length ch) rfl K0.out K1.out K2.out K3.out HRD.out HQA.out.symm HQS.out hlen1 hz3 ?_
                     intro g4 cap4 w4 ho hg hwh
                     obtain ⟨hb4, E4, B4⟩ := ED.out.pushed hBN ho hg hwh HAU.out HHN.out
                     obtain ⟨_, _, y2, _, _, e2⟩ := box3 hb4
                     have E5 := hide E4
                     have B5 := hide B4
                     clear ho hg hwh hb4 E4 B4)
      all_goals
        have hdl : (l'.drop n).length = l'.length - n := List.length_drop
        have hfin : ∃ (uv rv : Value) (l'' : List UInt8) (ps' : List Rv), WireEx (w4.setCell ⟨N, 2, none⟩ (.slice (some ⟨g4, 0, none⟩) (ps.length + 1) cap4)) N B uv l'' 0 rv ps' ∧ ps'.map Prod.fst ++ (drainL l'').1 = qs.map Prod.fst ++ (drainL l).1 ∧ (drainL l'').2 = (drainL l).2 ∧ ps'.length + l''.length ≤ 100000000 ∧ l''.length ≤ 4194304 ∧ Below B w (w4.setCell ⟨N, 2, none⟩ (.slice (some ⟨g4, 0, none⟩) (ps.length + 1) cap4)) := by
          refine ⟨_, _, _, _, E5.out, ?_, ?_, ?_, by omega, HCD.out.trans B5.out⟩
          · rw [← HD1.out, HDr.out]; simp
          · rw [← HD2.out, HDr.out]
          · rw [List.length_append]; simp only [List.length_cons, List.length_nil]; omega
        have hms : unreadLen (w4.setCell ⟨N, 2, none⟩ (.slice (some ⟨g4, 0, none⟩) (ps.length + 1) cap4)) N < unreadLen wr N := by
          rw [HU.out, E5.out.unread]; omega
        have HF := hide hfin
        have HMs := hide hms
        clear hfin hms hdl
        go_wp2
        exact ⟨HF.out, HMs.out⟩
    · have hn0 : n = 0 := HZero.out hC
      subst hn0
      by_cases hC1 : C = 1
      · subst hC1
        have hDr := HMore.out rfl
        have HDr := hide hDr
        have HFin : Hid (WireSt w2 N B (drainL l).2.1 (drainL l).2.2 (qs.map Prod.fst ++ (drainL l).1) ∧ Below B w w2) := by
          refine ⟨?_, HC2.out⟩
          rw [← HD1.out, ← HD2.out, HDr.out]
          simpa using EE.out.st
        clear hgood HGood HMore HBad HZero hDr HD1 HD2 HDr
        go_wp2
        refine bodyPost_ret (results_none rfl _ _ _) rfl ?_
        exact ⟨⟨_, rfl⟩, HFin.out⟩
      · have hDr := HBad.out hC hC1
        have HDr := hide hDr
        obtain ⟨w3, hw3⟩ : ∃ w3, w2.setCell ⟨N, 1, none⟩ (.int .i64 C) = w3 := ⟨_, rfl⟩
        have E3 : WireEx w3 N B uv1 l' C (.slice ar ps.length cr) ps := by
          rw [← hw3]
          exact EE.out.kept (fun k hk hkN => Below.heap_setCell _ _ _ _ hkN) (set_heap EE.out.box 1 _) EE.out.buf (fun g hg => hg)
        have c3 : Below B w w3 := by rw [← hw3]; exact HC2.out.setCell (p := ⟨N, 1, none⟩) hBN _
        have HDp := hide (drop_any N B w3 uv1 (.slice ar ps.length cr) l' C ps E3 hBN)
        have HC3 := hide c3
        have hCb : (C == 0) = false := by simpa using hC
        have hCb1 : (C == 1) = false := by simpa using hC1
        clear hgood HGood HMore HBad HZero hDr E3 c3
        go_wp2_with fail
        refine HDp.out.mono ?_
        rintro e w4 ⟨⟨v, rfl⟩, E4, b4⟩
        have HFin : Hid (WireSt w4 N B (drainL l).2.1 (drainL l).2.2 (qs.map Prod.fst ++ (drainL l).1) ∧ Below B w w4) := by
          refine ⟨?_, HC3.out.trans b4⟩
          rw [← HD1.out, ← HD2.out, HDr.out]
          simpa using E4.st
        clear E4 b4 HD1 HD2 HDr HDp
        go_wp2
        refine bodyPost_ret (results_none rfl _ _ _) rfl ?_
        exact ⟨⟨_, rfl⟩, HFin.out⟩
end Go.Proofs.YtanebchmeaomgaaGreatDoor
namespace Go.Proofs.YtanebchmeaomgaaGreatDoor
open Go.RowKit M
set_option linter.unusedVariables false

set_option maxHeartbeats 1000000 in
theorem feed_any (N B : Nat) (w : World) (l m : List UInt8) (bad : Int) (rs : List Rq) (mx : Int) (a : Option Addr) (c : Nat) (h : WireSt w N B l bad rs) (hBN : B ≤ N) (hy : Byt w B a m) (hs : l.length + m.length ≤ 4194304) (hr : rs.length + (l.length + m.length) ≤ 100000000) (h0 : 0 < B) (hmx : w.cell? ⟨0, 0, none⟩ = some (.int .i64 mx)) :
    Calls Tryz.prog 42 #[.pointer (some ⟨N, 0, none⟩), .slice a m.length c] w fun e w' => (∃ v, e = .returned v) ∧ WireSt w' N B (feedM l bad m).2.1 (feedM l bad m).2.2 (rs ++ (feedM l bad m).1) ∧ Below B w w' := by
  obtain ⟨uv, rv, qs, hE, hqs⟩ := h.ex
  obtain ⟨x0, x1, x2, f0, f1, f2⟩ := box3 hE.box
  clear x0 x2 f0 f1 f2 hE hqs
  by_cases hb : bad = 0
  · subst hb
    have HA := hide (add_any N B w l m 0 rs a c B h hBN hy hs)
    have HM := hide (fun (W : World) (hb : Below B w W) => (hb.cell (p := ⟨0, 0, none⟩) h0).trans hmx)
    have HF := hide (feedM_good l m)
    have hlen : (l ++ m).length = l.length + m.length := List.length_append
    clear h hy hmx
    go_enter Tryz.func42, Tryz.ntmps42
    go_wp2_with fail
    refine HA.out.mono ?_
    rintro e w1 ⟨⟨v, rfl⟩, s1, b1⟩
    have HR := hide (read_any N B w1 (l ++ m) rs mx s1 hBN (by omega) (by omega) h0 (HM.out w1 b1))
    have B1 := hide b1
    clear s1 b1 HA x1
    go_wp2_with fail
    refine HR.out.mono ?_
    rintro e w2 ⟨⟨v2, rfl⟩, s2, b2⟩
    have HZ : Hid (WireSt w2 N B (feedM l 0 m).2.1 (feedM l 0 m).2.2 (rs ++ (feedM l 0 m).1) ∧ Below B w w2) := by
      rw [HF.out]
      exact ⟨s2, B1.out.trans b2⟩
    clear s2 b2 HR
    go_wp2
    go_end0
    exact ⟨⟨_, rfl⟩, HZ.out⟩
  · have hbb : (bad != 0) = true := by simpa using hb
    have HZ : Hid (WireSt w N B (feedM l bad m).2.1 (feedM l bad m).2.2 (rs ++ (feedM l bad m).1)) := by
      rw [feedM_bad hb, List.append_nil]
      exact h
    clear h hb hy hmx
    go_enter Tryz.func42, Tryz.ntmps42
    go_wp2
    refine bodyPost_ret (results_none rfl _ _ _) rfl ?_
    exact ⟨⟨_, rfl⟩, HZ.out, Below.refl _ _⟩

set_option maxHeartbeats 1000000 in
theorem opened_any (w : World) (m : List UInt8) (bad : Int) (a : Option Addr) (c : Nat) (hy : Byt w w.heap.size a m) (hs : m.length ≤ 4194304) :
    Calls Tryz.prog 41 #[.agg #[.slice a m.length c, .int .i64 bad]] w fun e w' => (∃ N, e = .returned (.pointer (some ⟨N, 0, none⟩)) ∧ w.heap.size + 1 ≤ N ∧ WireSt w' N (w.heap.size + 1) m bad []) ∧ Below w.heap.size w w' := by
  obtain ⟨wz, hwz⟩ : ∃ wz, ((w.alloc (Obj.cells #[.slice a m.length c, .int .i64 bad] 27)).alloc (Obj.cells #[] 39)).alloc (Obj.cells #[.slice none 0 0, .int .i64 bad, .slice (some ⟨w.heap.size + 1, 0, none⟩) 0 0] 114) = wz := ⟨_, rfl⟩
  have b1 : Below w.heap.size w (w.alloc (Obj.cells #[.slice a m.length c, .int .i64 bad] 27)) := (Below.refl _ _).alloc (Nat.le_refl _) _
  have b2 : Below w.heap.size w ((w.alloc (Obj.cells #[.slice a m.length c, .int .i64 bad] 27)).alloc (Obj.cells #[] 39)) := b1.alloc (by simp) _
  have b3 : Below w.heap.size w wz := by rw [← hwz]; exact b2.alloc (by simp; omega) _
  have s3 : wz.heap.size = w.heap.size + 3 := by rw [← hwz]; simp
  have n0 : (w.alloc (Obj.cells #[.slice a m.length c, .int .i64 bad] 27)).heap.size = w.heap.size + 1 := by simp
  have n1 : ((w.alloc (Obj.cells #[.slice a m.length c, .int .i64 bad] 27)).alloc (Obj.cells #[] 39)).heap.size = w.heap.size + 2 := by simp
  have h0 : wz.heap[w.heap.size]? = some (Obj.cells #[.slice a m.length c, .int .i64 bad] 27) := by
    rw [← hwz, Below.heap_alloc _ _ _ (by rw [n1]; omega), Below.heap_alloc _ _ _ (by rw [n0]; omega)]
    exact heap_alloc_new w _
  have h1 : wz.heap[w.heap.size + 1]? = some (Obj.cells #[] 39) := by
    rw [← hwz, Below.heap_alloc _ _ _ (by rw [n1]; omega)]
    have := heap_alloc_new (w.alloc (Obj.cells #[.slice a m.length c, .int .i64 bad] 27)) (Obj.cells #[] 39)
    rwa [n0] at this
  have h2 : wz.heap[w.heap.size + 2]? = some (Obj.cells #[.slice none 0 0, .int .i64 bad, .slice (some ⟨w.heap.size + 1, 0, none⟩) 0 0] 114) := by
    have := heap_alloc_new ((w.alloc (Obj.cells #[.slice a m.length c, .int .i64 bad] 27)).alloc (Obj.cells #[] 39)) (Obj.cells #[.slice none 0 0, .int .i64 bad, .slice (some ⟨w.heap.size + 1, 0, none⟩) 0 0] 114)
    rw [n1] at this
    rw [← hwz]; exact this
  have st : WireSt wz.drew (w.heap.size + 2) (w.heap.size + 1) [] bad [] := ⟨_, _, [], h2, OwnO.nil _ _, RowsQ.bare (w := wz.drew) h1 (Nat.le_refl _), rfl, (fun g hg => by cases hg), ⟨(fun e => by cases e), (fun e => by have := Option.some.inj e; simp at this), (fun q hq => by cases hq)⟩⟩
  have HA := hide (add_any (w.heap.size + 2) (w.heap.size + 1) wz.drew [] m bad [] a c w.heap.size st (by omega) (hy.below (b3.drew) (Nat.le_refl _)) (by simpa using hs))
  have hc0 : wz.cell? ⟨w.heap.size, 0, none⟩ = some (.slice a m.length c) := by unfold World.cell?; rw [h0]; rfl
  have B3 := hide b3
  clear b1 b2 b3 s3 n0 n1 h0 h1 h2 st hy
  go_enter Tryz.func41, Tryz.ntmps41
  go_wp2_with fail
  try rw [hwz]
  go_region_held3 (fun W => W.cell? ⟨w.heap.size, 0, none⟩ = some (.slice a m.length c)) (first | exact hc0 | exact (b1.cell (p := ⟨w.heap.size, 0, none⟩) (Nat.lt_succ_self _)).trans hc0) ((go_at_call 76; refine HA.out.mono ?_; rintro e w1 ⟨⟨v, rfl⟩, s1, b1⟩))
  have HZ : Hid (WireSt w1 (w.heap.size + 2) (w.heap.size + 1) m bad [] ∧ Below w.heap.size w w1) := ⟨s1, B3.out.drew.trans (b1.mono (Nat.le_succ _))⟩
  clear s1 b1 HA B3
  go_wp2
  go_ret
  exact ⟨⟨_, rfl, Nat.le_succ _, HZ.out.1⟩, HZ.out.2⟩

set_option maxRecDepth 100000 in
set_option maxHeartbeats 1000000 in
/-- bytes.Clone of bytes of the call's own. -/
theorem cloneY_any (B : Nat) (v : Value) (l : List UInt8) (w : World) (h : OwnO w B v l) (hl : l.length ≤ 4194304) :
    Calls Tryz.prog 118 #[v] w fun e w' => (∃ v', e = .returned v' ∧ FreshY w' w.heap.size v' l) ∧ Below w.heap.size w w' := by
  have q22 : ∀ (w : World) (a : Option Addr) (n c n' c' : Nat), (binOp .eql 22 (.slice a n c) (.slice none n' c')).run Tryz.prog w = .ok (.bool a.isNone) w := fun w a n c n' c' => Lib.run_eql_slice_nil w _ _ a n c n' c' Tryz.underlying22
  obtain ⟨a, c, rfl, h1, h2, h3, h4, h5⟩ := h.slice
  cases a with
  | none =>
    obtain ⟨rfl, rfl⟩ := h3 rfl
    clear h h1 h2 h3 h4 h5 hl
    go_enter Tryz.func118, Tryz.ntmps118
    go_wp2
    go_ret
    exact ⟨⟨_, rfl, FreshY.nul _ _⟩, Below.refl _ _⟩
  | some x =>
    obtain ⟨g, o, sp⟩ := x
    obtain rfl : sp = none := h4 _ rfl
    have b0 : Below w.heap.size w (w.alloc (Obj.cells #[] 5)) := (Below.refl _ _).alloc (Nat.le_refl _) _
    have HY := hide (h5.below b0 (Nat.le_refl _))
    have B0 := hide b0
    clear h h1 h2 h3 h4 h5 b0
    go_enter Tryz.func118, Tryz.ntmps118
    go_wp2_with (at_builtin; refine wp_append_any rfl _ _ rfl w.heap.size _ [] rfl (OwnY.bare w) (some ⟨g, o, none⟩) l c w.heap.size rfl HY.out (by simp; omega) (by simp) ?_)
    intro v' w1 o1 g1 _
    have o1' : OwnY w1 w.heap.size v' l := o1
    have HF := hide o1'.fresh
    have HB := hide (B0.out.grown g1 (by simp) (fun k hk => by cases hk; exact Nat.le_refl _))
    clear o1 o1' g1
    go_wp2
    go_ret
    exact ⟨⟨_, rfl, HF.out⟩, HB.out⟩
set_option maxHeartbeats 400000 in
theorem left_any (N B : Nat) (w : World) (uv rv : Value) (l : List UInt8) (bad : Int) (qs : List Rv) (h : WireEx w N B uv l bad rv qs) (hl : l.length ≤ 4194304) :
    Calls Tryz.prog 78 #[.pointer (some ⟨N, 0, none⟩)] w fun e w' => (∃ v', e = .returned v' ∧ FreshY w' w.heap.size v' l) ∧ Below w.heap.size w w' := by
  obtain ⟨x0, _, _, _, _, _⟩ := box3 h.box
  have HC := hide (cloneY_any B uv l w h.buf hl)
  obtain ⟨a, c, rfl, _⟩ := h.buf.slice
  clear h
  go_enter Tryz.func78, Tryz.ntmps78
  go_wp2_with fail
  refine HC.out.mono ?_
  rintro e w1 ⟨⟨v, rfl, h1⟩, b1⟩
  have H1 := hide h1
  clear h1 HC
  go_wp2
  go_ret
  exact ⟨⟨_, rfl, H1.out⟩, b1⟩

theorem FreshY.base {w : World} {B C : Nat} {v : Value} {l : List UInt8} (h : FreshY w B v l) (hC : C ≤ B) : FreshY w C v l := by
  obtain ⟨a, c, rfl, h1, h2, h3, h4⟩ := h
  refine ⟨a, c, rfl, h1, h2, fun h0 => ?_, h4⟩
  obtain ⟨g, e, hB, hr⟩ := h3 h0
  exact ⟨g, e, Nat.le_trans hC hB, hr⟩
/-- What Feed hands back: a wire, and requests. -/
def FedIs (w : World) (B : Nat) (d : List Rq × List UInt8 × Int) (e : Ending) : Prop :=
  ∃ bv qv qs, e = .returned (.tuple #[.agg #[bv, .int .i64 d.2.2], qv]) ∧ FreshY w B bv d.2.1 ∧ RowsQ w B qv qs ∧ qs.map Prod.fst = d.1 ∧ (∀ g, 0 < d.2.1.length → bv.ownBlock = some g → qv.ownBlock ≠ some g ∧ ∀ q ∈ qs, q.2.ownBlock ≠ some g)
theorem results_closed (tmps : Array Value) (N : Nat) (W : World) (v0 v1 x : Value) (h2 : tmps.getD 2 undef = .pointer (some ⟨N, 0, none⟩)) (h3 : tmps.getD 3 undef = x) (hg : W.heap[N]? = some (Obj.cells #[v0, v1] 27)) :
    (results Tryz.f43 tmps).run Tryz.prog W = .ok (.tuple #[.agg #[v0, v1], x]) W := by
  have hl := run_loadVar_row (P := Tryz.prog) W N 27 27 #[v0, v1] (0, 0) _ hg Tryz.underlying27 rfl (by kernel_rfl)
  simp at h2 h3
  simp [results, Tryz.results43, h2, h3, asAddr, hl]
set_option maxRecDepth 100000 in
set_option maxHeartbeats 2000000 in
theorem closed_any (N B : Nat) (w : World) (l : List UInt8) (bad : Int) (rs : List Rq) (h : WireSt w N B l bad rs) (hBN : B ≤ N) (hl : l.length ≤ 4194304) :
    Calls Tryz.prog 43 #[.pointer (some ⟨N, 0, none⟩)] w fun e w' => FedIs w' B (rs, l, bad) e ∧ Below w.heap.size w w' := by
  obtain ⟨uv, rv, qs, hE, hqs⟩ := h.ex
  obtain ⟨w0, hw0⟩ : ∃ w0, w.alloc (Obj.cells #[.slice none 0 0, .int .i64 0] 27) = w0 := ⟨_, rfl⟩
  have c0 : Below w.heap.size w w0 := by rw [← hw0]; exact (Below.refl _ _).alloc (Nat.le_refl _) _
  have z0 : w0.heap[w.heap.size]? = some (Obj.cells #[.slice none 0 0, .int .i64 0] 27) := by rw [← hw0]; exact heap_alloc_new w _
  have s0 : w.heap.size < w0.heap.size := by rw [← hw0]; simp
  have hN := hE.lt
  have hMN : w.heap.size ≠ N := by omega
  have E0 := hE.next c0
  obtain ⟨au, cu, hu, _⟩ := hE.buf.slice
  obtain ⟨ar, cr, hv, _⟩ := hE.row.rqs
  subst hu
  subst hv
  subst hqs
  have E0d : WireEx w0.drew N B (.slice au l.length cu) l bad (.slice ar qs.length cr) qs := E0.next (Below.refl _ _).drew
  have HL := hide (left_any N B w0.drew _ _ l bad qs E0d hl)
  obtain ⟨x0, x1, x2, _, _, _⟩ := box3 E0.box
  have HE := hide E0
  have HLt := hide (fun g hg => (hE.row.lt g hg).2)
  have C0 := hide c0
  have Z0 := hide z0
  clear h hE E0 E0d c0 z0
  go_enter Tryz.func43, Tryz.ntmps43
  go_wp2_with fail
  try rw [hw0]
  go_region_held3 (fun W => W.cell? ⟨N, 1, none⟩ = some (.int .i64 bad) ∧ W.cell? ⟨N, 2, none⟩ = some (.slice ar qs.length cr)) (first | exact ⟨x1, x2⟩ | exact ⟨y1, y2⟩ | exact ⟨(World.cell?_setCell_other _ _ _ _ (fun e => hMN (congrArg Addr.block e))).trans ((World.cell?_setCell_other _ _ _ _ (fun e => hMN (congrArg Addr.block e))).trans y1), (World.cell?_setCell_other _ _ _ _ (fun e => hMN (congrArg Addr.block e))).trans ((World.cell?_setCell_other _ _ _ _ (fun e => hMN (congrArg Addr.block e))).trans y2)⟩) ((go_at_call 78; refine HL.out.mono ?_; rintro e w1 ⟨⟨v, rfl, ⟨av, cv, rfl, q1, q2, q3, q4⟩⟩, bq⟩; have y1 := (bq.cell (p := ⟨N, 1, none⟩) (show N < w0.heap.size by omega)).trans x1; have y2 := (bq.cell (p := ⟨N, 2, none⟩) (show N < w0.heap.size by omega)).trans x2; have z1 := (bq.block _ s0).trans Z0.out; obtain ⟨m0, m1, n0, n1⟩ := cells2 z1))
  all_goals
    have hz1 : w0.heap.size ≤ w1.heap.size := bq.size
    have F1 : FreshY w1 w0.heap.size (.slice av l.length cv) l := ⟨_, _, rfl, q1, q2, q3, q4⟩
    have R1 : RowsQ w1 B (.slice ar qs.length cr) qs := (HE.out.row.next (Below.refl _ _).drew).next bq
    have hb1 : Below w.heap.size w w1 := (C0.out.drew).trans (bq.mono (Nat.le_of_lt s0))
    have keep : ∀ v0 v1, ∀ k, k ≠ w.heap.size → ((w1.setCell ⟨w.heap.size, 0, none⟩ v0).setCell ⟨w.heap.size, 1, none⟩ v1).heap[k]? = w1.heap[k]? := fun v0 v1 k hk => by
      rw [Below.heap_setCell _ _ _ _ hk, Below.heap_setCell _ _ _ _ hk]
    have HZ : Hid (∀ v0 v1, FreshY ((w1.setCell ⟨w.heap.size, 0, none⟩ v0).setCell ⟨w.heap.size, 1, none⟩ v1) B (.slice av l.length cv) l ∧ RowsQ ((w1.setCell ⟨w.heap.size, 0, none⟩ v0).setCell ⟨w.heap.size, 1, none⟩ v1) B (.slice ar qs.length cr) qs ∧ Below w.heap.size w ((w1.setCell ⟨w.heap.size, 0, none⟩ v0).setCell ⟨w.heap.size, 1, none⟩ v1)) := by
      intro v0 v1
      refine ⟨?_, ?_, ?_⟩
      · refine FreshY.base (F1.same (by simp [World.setCell]) (fun k hk _ => keep v0 v1 k (by omega))) (by omega)
      · exact R1.of (fun g hg => keep v0 v1 g (by have := HLt.out g hg; omega))
      · exact (hb1.setCell (p := ⟨w.heap.size, 0, none⟩) (Nat.le_refl _) v0).setCell (p := ⟨w.heap.size, 1, none⟩) (Nat.le_refl _) v1
    have HP : Hid (∀ g, 0 < l.length → (Value.slice av l.length cv).ownBlock = some g → (Value.slice ar qs.length cr).ownBlock ≠ some g ∧ ∀ q ∈ qs, q.2.ownBlock ≠ some g) := by
      intro g h0 hg
      obtain ⟨g', e, hB', _⟩ := q3 h0
      subst e
      have e2 : g' = g := Option.some.inj hg
      subst e2
      have hg1 : w0.heap.size ≤ g' := hB'
      refine ⟨fun e => ?_, fun q hq e => ?_⟩
      · have := (HE.out.row.lt g' (.inl e)).2; omega
      · have := (HE.out.row.lt g' (.inr ⟨q, hq, e⟩)).2; omega
    have Z1 := hide z1
    clear q1 q2 q3 q4 F1 R1 hb1 keep bq hz1 HL
    go_wp2
    refine bodyPost_ret (results_closed _ w.heap.size _ _ _ _ rfl rfl (set2_heap Z1.out _ _)) rfl ?_
    obtain ⟨k1, k2, k3⟩ := HZ.out (.slice av l.length cv) (.int .i64 bad)
    exact ⟨⟨_, _, qs, rfl, k1, k2, rfl, HP.out⟩, k3⟩
end Go.Proofs.YtanebchmeaomgaaGreatDoor
namespace Go.Proofs.YtanebchmeaomgaaGreatDoor
open Go.RowKit M
set_option linter.unusedVariables false

theorem FedIs.store {w : World} {B C M : Nat} {d : List Rq × List UInt8 × Int} {e : Ending} (h : FedIs w B d e) (hM : M < B) (hC : C ≤ B) (v0 v1 : Value) : FedIs ((w.setCell ⟨M, 0, none⟩ v0).setCell ⟨M, 1, none⟩ v1) C d e := by
  obtain ⟨bv, qv, qs, rfl, h1, h2, h3, h4⟩ := h
  have keep : ∀ k, B ≤ k → k < w.heap.size → ((w.setCell ⟨M, 0, none⟩ v0).setCell ⟨M, 1, none⟩ v1).heap[k]? = w.heap[k]? := fun k hk _ => by
    have hkM : k ≠ M := by omega
    rw [Below.heap_setCell _ _ _ _ hkM, Below.heap_setCell _ _ _ _ hkM]
  exact ⟨bv, qv, qs, rfl, (h1.same (by simp [World.setCell]) keep).base hC, (h2.same keep).base hC, h3, h4⟩
theorem FedIs.next {w w' : World} {B : Nat} {d : List Rq × List UInt8 × Int} {e : Ending} (h : FedIs w B d e) (hb : Below w.heap.size w w') : FedIs w' B d e := by
  obtain ⟨bv, qv, qs, rfl, h1, h2, h3, h4⟩ := h
  exact ⟨bv, qv, qs, rfl, h1.next hb, h2.next hb, h3, h4⟩
theorem results_feed (tmps : Array Value) (N : Nat) (W : World) (v0 v1 x : Value) (h2 : tmps.getD 4 undef = .pointer (some ⟨N, 0, none⟩)) (h3 : tmps.getD 5 undef = x) (hg : W.heap[N]? = some (Obj.cells #[v0, v1] 27)) :
    (results Tryz.f10 tmps).run Tryz.prog W = .ok (.tuple #[.agg #[v0, v1], x]) W := by
  have hl := run_loadVar_row (P := Tryz.prog) W N 27 27 #[v0, v1] (0, 0) _ hg Tryz.underlying27 rfl (by kernel_rfl)
  simp at h2 h3
  simp [results, Tryz.results10, h2, h3, asAddr, hl]
theorem results_feedAll (tmps : Array Value) (N : Nat) (W : World) (v0 v1 x : Value) (h2 : tmps.getD 2 undef = .pointer (some ⟨N, 0, none⟩)) (h3 : tmps.getD 3 undef = x) (hg : W.heap[N]? = some (Obj.cells #[v0, v1] 27)) :
    (results Tryz.f8 tmps).run Tryz.prog W = .ok (.tuple #[.agg #[v0, v1], x]) W := by
  have hl := run_loadVar_row (P := Tryz.prog) W N 27 27 #[v0, v1] (0, 0) _ hg Tryz.underlying27 rfl (by kernel_rfl)
  simp at h2 h3
  simp [results, Tryz.results8, h2, h3, asAddr, hl]

set_option maxRecDepth 100000 in
set_option maxHeartbeats 2000000 in
theorem feedI_any (a : Option Addr) (l : List UInt8) (c : Nat) (bad : Int) (a2 : Option Addr) (m : List UInt8) (c2 : Nat) (mx : Int) (w : World) (hy : Byt w w.heap.size a l) (hy2 : Byt w w.heap.size a2 m) (hs : l.length + m.length ≤ 4194304) (h0 : 0 < w.heap.size) (hmx : w.cell? ⟨0, 0, none⟩ = some (.int .i64 mx)) :
    Calls Tryz.prog 10 #[.agg #[.slice a l.length c, .int .i64 bad], .slice a2 m.length c2] w fun e w' => FedIs w' w.heap.size (feedM l bad m) e ∧ Below w.heap.size w w' := by
  obtain ⟨w0, hw0⟩ : ∃ w0, (w.alloc (Obj.cells #[.slice a l.length c, .int .i64 bad] 27)).alloc (Obj.cells #[.slice none 0 0, .int .i64 0] 27) = w0 := ⟨_, rfl⟩
  have n0 : (w.alloc (Obj.cells #[.slice a l.length c, .int .i64 bad] 27)).heap.size = w.heap.size + 1 := by simp
  have c0 : Below w.heap.size w w0 := by rw [← hw0]; exact ((Below.refl _ _).alloc (Nat.le_refl _) _).alloc (by rw [n0]; omega) _
  have s0 : w0.heap.size = w.heap.size + 2 := by rw [← hw0]; simp
  have z0 : w0.heap[w.heap.size]? = some (Obj.cells #[.slice a l.length c, .int .i64 bad] 27) := by
    rw [← hw0, Below.heap_alloc _ _ _ (by rw [n0]; omega)]; exact heap_alloc_new w _
  have z1 : w0.heap[w.heap.size + 1]? = some (Obj.cells #[.slice none 0 0, .int .i64 0] 27) := by
    have := heap_alloc_new (w.alloc (Obj.cells #[.slice a l.length c, .int .i64 bad] 27)) (Obj.cells #[.slice none 0 0, .int .i64 0] 27)
    rw [n0] at this
    rw [← hw0]; exact this
  obtain ⟨x0, x1, _, _⟩ := cells2 z0
  have HO := hide (opened_any w0 l bad a c ((hy.below c0 (Nat.le_refl _)).mono c0.size) (by omega))
  have HM := hide (fun (W : World) (hb : Below w.heap.size w W) => (hb.cell (p := ⟨0, 0, none⟩) h0).trans hmx)
  have HY2 := hide hy2
  have C0 := hide c0
  have Z1 := hide z1
  have HF := hide (feedM_count l bad m)
  have S0 := hide s0
  clear hy hy2 hmx c0 z0 z1 n0 s0
  go_enter Tryz.func10, Tryz.ntmps10
  go_wp2_with fail
  try rw [hw0]
  refine HO.out.mono ?_
  rintro e w1 ⟨⟨N, rfl, hBN, st1⟩, b1⟩
  have c1 := C0.out.trans (b1.mono C0.out.size)
  have HFd := hide (feed_any N (w0.heap.size + 1) w1 l m bad [] mx a2 c2 st1 hBN ((HY2.out.below c1 (Nat.le_refl _)).mono (by have := S0.out; omega)) hs (by simp only [List.length_nil]; omega) (by have := S0.out; omega) (HM.out w1 c1))
  have C1 := hide c1
  have Z2 := hide ((b1.block _ (by have := S0.out; omega)).trans Z1.out)
  clear st1 b1 c1 HO x0 x1
  go_wp2_with fail
  refine HFd.out.mono ?_
  rintro e w2 ⟨⟨v, rfl⟩, st2, b2⟩
  rw [List.nil_append] at st2
  have c2' := C1.out.trans (b2.mono (by have := S0.out; omega))
  have Z3 := hide ((b2.block _ (by have := S0.out; omega)).trans Z2.out)
  have HCl := hide (closed_any N (w0.heap.size + 1) w2 _ _ _ st2 hBN (by have := HF.out; omega))
  have C2 := hide c2'
  have hN2 := st2.lt
  clear st2 b2 c2' HFd
  go_wp2_with fail
  refine HCl.out.mono ?_
  rintro e w3 ⟨hfed, b3⟩
  have c3 := C2.out.trans (b3.mono C2.out.size)
  have z4 := (b3.block _ (by have := S0.out; omega)).trans Z3.out
  have Z4 := hide z4
  have C3 := hide c3
  have HFe := hide hfed
  obtain ⟨bv, qv, qs, rfl, hfr, _⟩ := hfed
  obtain ⟨av, cv, rfl, _⟩ := hfr
  obtain ⟨m0, m1, n0, n1⟩ := cells2 z4
  clear hw0 HCl b3 c3 z4
  go_wp2
  refine bodyPost_ret (results_feed _ (w.heap.size + 1) _ _ _ _ rfl rfl (set2_heap Z4.out _ _)) rfl ?_
  refine ⟨HFe.out.store (M := w.heap.size + 1) (by have := S0.out; omega) (by have := S0.out; omega) _ _, ?_⟩
  exact (C3.out.setCell (p := ⟨w.heap.size + 1, 0, none⟩) (Nat.le_succ _) _).setCell (p := ⟨w.heap.size + 1, 1, none⟩) (Nat.le_succ _) _

set_option maxRecDepth 100000 in
set_option maxHeartbeats 2000000 in
theorem feedAllI_any (a : Option Addr) (ls : List (List UInt8)) (cap : Nat) (mx : Int) (w : World) (h : Bss w w.heap.size a ls) (hl : ls.length ≤ 1048576) (hs : sumB ls ≤ 4194304) (h0 : 0 < w.heap.size) (hmx : w.cell? ⟨0, 0, none⟩ = some (.int .i64 mx)) :
    Calls Tryz.prog 8 #[.slice a ls.length cap] w fun e w' => FedIs w' w.heap.size (feedsM ls [] 0) e ∧ Below w.heap.size w w' := by
  obtain ⟨w0, hw0⟩ : ∃ w0, w.alloc (Obj.cells #[.slice none 0 0, .int .i64 0] 27) = w0 := ⟨_, rfl⟩
  have c0 : Below w.heap.size w w0 := by rw [← hw0]; exact (Below.refl _ _).alloc (Nat.le_refl _) _
  have s0 : w.heap.size < w0.heap.size := by rw [← hw0]; simp
  have z0 : w0.heap[w.heap.size]? = some (Obj.cells #[.slice none 0 0, .int .i64 0] 27) := by rw [← hw0]; exact heap_alloc_new w _
  have HO := hide (opened_any w0 [] 0 none 0 (Byt.nil _ _ _) (by simp))
  have HM := hide (fun (W : World) (hb : Below w.heap.size w W) => (hb.cell (p := ⟨0, 0, none⟩) h0).trans hmx)
  have HB := hide h
  have C0 := hide c0
  have Z0 := hide z0
  have HCnt := hide (fun k => feedsM_all (ls.take k) [] 0)
  clear h hmx c0 z0
  go_enter Tryz.func8, Tryz.ntmps8
  go_wp2_with fail
  try rw [hw0]
  refine HO.out.mono ?_
  rintro e w1 ⟨⟨N, rfl, hBN, st1⟩, b1⟩
  have C1 := hide (C0.out.trans (b1.mono C0.out.size))
  have Z1 := hide ((b1.block _ s0).trans Z0.out)
  have ST1 := hide st1
  clear st1 b1 HO hw0
  go_wp2
  go_loopw [11] (fun i wr => ∃ k : Nat, k ≤ ls.length ∧ i = .int .i64 k ∧ WireSt wr N (w0.heap.size + 1) (feedsM (ls.take k) [] 0).2.1 (feedsM (ls.take k) [] 0).2.2 (feedsM (ls.take k) [] 0).1 ∧ Below w.heap.size w wr ∧ wr.heap[w.heap.size]? = some (Obj.cells #[.slice none 0 0, .int .i64 0] 27)) (fun i _ => ls.length - (intOf i).toNat)
  case atStart => exact ⟨0, Nat.zero_le _, rfl, ST1.out, C1.out, Z1.out⟩
  case round =>
    obtain ⟨k, hk, rfl, hst, hbe, hz⟩ := hrel
    have hcnt := (HCnt.out k).2
    simp only [List.length_nil, Nat.zero_add] at hcnt
    rw [sumB_flat] at hcnt
    by_cases hlt : k < ls.length
    · obtain ⟨b, o, rfl, hb, hc⟩ := HB.out (by omega)
      obtain ⟨aj, cj, hc1, hy, hlc, hcm⟩ := hc k hlt
      have hcx := (hbe.cell (p := ⟨b, o + k, none⟩) hb).trans hc1
      have h1 := sumB_snoc ls k hlt
      have h2 := sumB_le ls (k + 1)
      have HFd := hide (feed_any N (w0.heap.size + 1) wr _ ls[k] _ _ mx aj cj hst hBN ((hy.below hbe (Nat.le_refl _)).mono (by omega)) (by omega) (by omega) (by omega) (HM.out wr hbe))
      have HSn := hide (feedsM_snoc (ls.take k) ls[k] [] 0)
      rw [← List.take_succ_eq_append_getElem hlt] at HSn
      have HBe := hide hbe
      have HZ := hide hz
      clear hc hc1 hy hlc hcm hst hbe hz h1 h2 hcnt
      go_wp2_with fail
      refine HFd.out.mono ?_
      rintro e w2 ⟨⟨v, rfl⟩, st2, b2⟩
      have ST2 : Hid (WireSt w2 N (w0.heap.size + 1) (feedsM (ls.take (k + 1)) [] 0).2.1 (feedsM (ls.take (k + 1)) [] 0).2.2 (feedsM (ls.take (k + 1)) [] 0).1) := by
        rw [HSn.out]; exact st2
      have C2 := hide (HBe.out.trans (b2.mono (by omega)))
      have Z2 := hide ((b2.block _ (by omega)).trans HZ.out)
      clear st2 b2 HFd
      go_wp2
      go_roundw
      case rel => exact ⟨k + 1, by omega, by go_num, ST2.out, C2.out, Z2.out⟩
      case measure => simp [intOf]; omega
    · have hall : ls.take k = ls := List.take_of_length_le (by omega)
      have h2 := sumB_le ls k
      rw [hall] at hst hcnt
      have HCl := hide (closed_any N (w0.heap.size + 1) wr _ _ _ hst hBN (by omega))
      have HBe := hide hbe
      have HZ := hide hz
      have hNl := hst.lt
      clear hst hbe hz hcnt hall h2
      go_wp2_with fail
      refine HCl.out.mono ?_
      rintro e w3 ⟨hfed, b3⟩
      have z4 := (b3.block _ (by omega)).trans HZ.out
      have Z4 := hide z4
      have C3 := hide (HBe.out.trans (b3.mono HBe.out.size))
      have HFe := hide hfed
      obtain ⟨bv, qv, qs, rfl, hfr, _⟩ := hfed
      obtain ⟨av, cv, rfl, _⟩ := hfr
      obtain ⟨m0, m1, n0, n1⟩ := cells2 z4
      clear HCl b3 z4
      go_wp2
      refine bodyPost_ret (results_feedAll _ w.heap.size _ _ _ _ rfl rfl (set2_heap Z4.out _ _)) rfl ?_
      refine ⟨HFe.out.store (M := w.heap.size) (by omega) (by omega) _ _, ?_⟩
      exact (C3.out.setCell (p := ⟨w.heap.size, 0, none⟩) (Nat.le_refl _) _).setCell (p := ⟨w.heap.size, 1, none⟩) (Nat.le_refl _) _
end Go.Proofs.YtanebchmeaomgaaGreatDoor
namespace Go.Proofs.YtanebchmeaomgaaGreatDoor
open Go.RowKit

/-- The texts that a slice holds, in a block below B. -/
def Strs (w : World) (B : Nat) (a : Option Addr) (ss : List ByteArray) : Prop :=
  0 < ss.length → ∃ b o, a = some ⟨b, o, none⟩ ∧ b < B ∧ ∀ j (hj : j < ss.length), w.cell? ⟨b, o + j, none⟩ = some (.string ss[j])

theorem Strs.below {w w' : World} {B C : Nat} {a : Option Addr} {ss : List ByteArray} (h : Strs w B a ss) (hb : Below C w w') (hB : B ≤ C) : Strs w' B a ss := fun h0 => by
  obtain ⟨b, o, e, hbB, hc⟩ := h h0
  exact ⟨b, o, e, hbB, fun j hj => (hb.cell (p := ⟨b, o + j, none⟩) (Nat.lt_of_lt_of_le hbB hB)).trans (hc j hj)⟩

theorem Strs.mono {w : World} {B C : Nat} {a : Option Addr} {ss : List ByteArray} (h : Strs w B a ss) (hB : B ≤ C) : Strs w C a ss := fun h0 => by
  obtain ⟨b, o, e, hbB, hc⟩ := h h0
  exact ⟨b, o, e, Nat.lt_of_lt_of_le hbB hB, hc⟩

theorem Strs.take {w : World} {B : Nat} {a : Option Addr} {ss : List ByteArray} (h : Strs w B a ss) (k : Nat) : Strs w B a (ss.take k) := fun h0 => by
  have hl : (ss.take k).length ≤ ss.length := by rw [List.length_take]; omega
  obtain ⟨b, o, e, hbB, hc⟩ := h (by omega)
  exact ⟨b, o, e, hbB, fun j hj => by rw [hc j (by omega), List.getElem_take]⟩

theorem info_str : (Tryz.prog.info? 9).map (fun i => (i.zero, i.size, i.bytes)) = some (some (.string ByteArray.empty), 1, 16) := by kernel_rfl

/-- A row of texts that the call made, as a slice. -/
theorem Strs.row {w : World} {N n C : Nat} {ss : List ByteArray} {f : Nat → Value} (h : w.rowIs N 9 n f) (hn : ss.length ≤ n) (hf : ∀ j (hj : j < ss.length), f j = .string ss[j]) (hN : N < C) : Strs w C (some ⟨N, 0, none⟩) ss := fun _ =>
  ⟨N, 0, rfl, hN, fun j hj => by rw [Nat.zero_add, h.cell (by omega), hf j hj]⟩

/-- All of them short enough. -/
def Short (ss : List ByteArray) : Prop := ∀ s ∈ ss, s.size ≤ maxLen
theorem Short.at {ss : List ByteArray} (h : Short ss) (k : Nat) (hk : k < ss.length) : (ss[k]).size ≤ maxLen := h _ (List.getElem_mem hk)

def sumS (ss : List ByteArray) : Nat := (ss.map (·.size)).sum
theorem sumS_snoc (ss : List ByteArray) (k : Nat) (hk : k < ss.length) : sumS (ss.take (k + 1)) = sumS (ss.take k) + (ss[k]).size := by
  unfold sumS
  rw [List.take_succ_eq_append_getElem hk, List.map_append, List.sum_append]
  simp only [List.map_cons, List.map_nil, List.sum_cons, List.sum_nil, Nat.add_zero]
theorem sumS_all (ss : List ByteArray) (k : Nat) (hk : ¬ k < ss.length) : ss.take k = ss := List.take_of_length_le (by omega)
theorem sumS_mem (ss : List ByteArray) (s : ByteArray) (h : s ∈ ss) : s.size ≤ sumS ss := by
  induction ss with
  | nil => cases h
  | cons x l ih =>
    simp only [sumS, List.map_cons, List.sum_cons] at *
    rcases List.mem_cons.1 h with rfl | h
    · omega
    · have := ih h; omega

theorem str_inj {a b : ByteArray} (h : a.toList = b.toList) : a = b := by
  rw [ByteArray.toList_eq, ByteArray.toList_eq] at h
  exact ByteArray.ext (Array.ext' h)

/-- Whether two lists of texts are the same. -/
def sameL (ss tt : List ByteArray) : Bool := decide (ss = tt)
theorem sameL_refl (ss : List ByteArray) : sameL ss ss = true := by simp [sameL]
theorem sameL_len {ss tt : List ByteArray} (h : ¬ ss.length = tt.length) : sameL ss tt = false := by
  simp only [sameL, decide_eq_false_iff_not]; intro e; exact h (by rw [e])
theorem sameL_not {ss tt : List ByteArray} (k : Nat) (h1 : k < ss.length) (h2 : k < tt.length) (h : ¬ ss[k] = tt[k]) : sameL ss tt = false := by
  simp only [sameL, decide_eq_false_iff_not]; intro e; subst e; exact h rfl
theorem sameL_all {ss tt : List ByteArray} (hl : ss.length = tt.length) (k : Nat) (hk : ¬ k < ss.length) (h : ss.take k = tt.take k) : sameL ss tt = true := by
  rw [List.take_of_length_le (by omega), List.take_of_length_le (by omega)] at h
  simp [sameL, h]
theorem take_same {ss tt : List ByteArray} (k : Nat) (h1 : k < ss.length) (h2 : k < tt.length) (h0 : ss.take k = tt.take k) (h : ss[k] = tt[k]) : ss.take (k + 1) = tt.take (k + 1) := by
  rw [List.take_succ_eq_append_getElem h1, List.take_succ_eq_append_getElem h2, h0, h]
end Go.Proofs.YtanebchmeaomgaaGreatDoor
