/-
  Rows of numbers that a call makes.
-/
import Derived.Test.YtcgljeagjchobaaGreatProg
import Derived.Test.YtcgljeagjchobaaGreatGenRow
import Derived.Test.YtcgljeagjchobaaGreatGenSrv
namespace Go.Proofs.YtcgljeagjchobaaGreat
open Go.RowKit M
set_option linter.unusedVariables false

def ci (n : Int) : List Value := [.int .i64 n]
theorem ci_len : ∀ x, (ci x).length = 1 := fun _ => rfl
theorem infoI : (Tryz.prog.info? 3).map (fun i => (i.zero, i.size, i.bytes)) = some (some (.int .i64 0), 1, 8) := by kernel_rfl
theorem view_of_ints {w : World} {B g n c : Nat} {l : List Int} (h : OwnG 3 1 ci w B (.slice (some ⟨g, 0, none⟩) n c) l) : View w w.heap.size (.slice (some ⟨g, 0, none⟩) n c) (.l (l.map dI)) := by
  obtain ⟨e1, e2, e3, e4, e5, e6, e7⟩ := h.row ci_len
  have e : n = (l.map dI).length := by rw [List.length_map]; exact e1
  rw [e]
  refine .row g 0 c 1 _ (fun j i => match l[j]? with | some s => .int .i64 s | none => .bool false) e5 (by rw [← e]; exact e2) e3 (fun r hr => by obtain ⟨x, _, rfl⟩ := List.mem_map.1 hr; rfl) (fun j i x hx => ?_) (fun j i x hx => ?_)
  all_goals
    unfold cellAt at hx
    by_cases hj : j < l.length
    · rw [map_at dI l j hj] at hx
      match i with
      | 0 => cases hx; rw [List.getElem?_eq_getElem hj]; first | exact .c _ | (have := e7 j hj 0 _ rfl; simpa using this)
      | i + 1 => cases hx
    · rw [List.getElem?_eq_none (by simp; omega)] at hx; cases hx

theorem own_of_ints {w : World} {B g n c : Nat} {l : List Int} (h : OwnG 3 1 ci w B (.slice (some ⟨g, 0, none⟩) n c) l) : Own w (.slice (some ⟨g, 0, none⟩) n c) (.l (l.map dI)) (fun y => y = g) := by
  obtain ⟨e1, e2, e3, e4, e5, e6, e7⟩ := h.row ci_len
  have e : n = (l.map dI).length := by rw [List.length_map]; exact e1
  rw [e]
  refine .row g 0 c 1 _ (fun j i => match l[j]? with | some s => .int .i64 s | none => .bool false) (fun _ _ _ => False) _ rfl e5 (by rw [← e]; exact e2) e3 (fun r hr => by obtain ⟨x, _, rfl⟩ := List.mem_map.1 hr; rfl) (fun j i x hx => ?_) (fun j i x hx => ?_) (fun j i y hy => hy.elim) (fun j i j' i' y _ hy => hy.elim)
  all_goals
    unfold cellAt at hx
    by_cases hj : j < l.length
    · rw [map_at dI l j hj] at hx
      match i with
      | 0 => cases hx; rw [List.getElem?_eq_getElem hj]; first | exact .c _ _ | (have := e7 j hj 0 _ rfl; exact ⟨by simpa using this, e6 _⟩)
      | i + 1 => cases hx
    · rw [List.getElem?_eq_none (by simp; omega)] at hx; cases hx
end Go.Proofs.YtcgljeagjchobaaGreat
