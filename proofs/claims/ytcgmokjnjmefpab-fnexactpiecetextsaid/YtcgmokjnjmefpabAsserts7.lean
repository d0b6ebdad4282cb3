/-
  What a type switch on a mark finds.
-/
import Derived.Test.YtcgmokjnjmefpabRows
import Derived.WalkKit
import Derived.Laws.Entries
import Derived.Tactics
namespace Go.Proofs.Ytcgmokjnjmefpab
open Go.RowKit

theorem assert_same {w : World} {t xt : TypeId} {fs : Array Field} {v : Value} (hu : Try.prog.underlying t = some (.struct fs)) :
    (Instr.typeAssert (.iface t v) xt t true).run Try.prog w = .ok (.tuple #[v, .bool true]) w := by
  simp [Instr.typeAssert, run_underlying hu]
theorem assert_other {w : World} {t u xt : TypeId} {fs : Array Field} {v z : Value} (hu : Try.prog.underlying u = some (.struct fs)) (hne : t ≠ u) (hz : (Try.prog.info? u).map (·.zero) = some (some z)) :
    (Instr.typeAssert (.iface t v) xt u true).run Try.prog w = .ok (.tuple #[z, .bool false]) w := by
  obtain ⟨j, hj, hz'⟩ := Option.map_eq_some_iff.1 hz
  simp [Instr.typeAssert, run_underlying hu, hne, typeInfo, zeroValue, hj, hz']

def zOpen : Value := .agg #[.string ⟨#[]⟩, .bool false, .string ⟨#[]⟩]
def zOne : Value := .agg #[.string ⟨#[]⟩]
theorem is_open (v : Value) (xt : TypeId) (w : World) : (Instr.typeAssert (.iface 37 v) xt 37 true).run Try.prog w = .ok (.tuple #[v, .bool true]) w := assert_same Try.underlying37
theorem is_close (v : Value) (xt : TypeId) (w : World) : (Instr.typeAssert (.iface 40 v) xt 40 true).run Try.prog w = .ok (.tuple #[v, .bool true]) w := assert_same Try.underlying40
theorem is_empty (v : Value) (xt : TypeId) (w : World) : (Instr.typeAssert (.iface 41 v) xt 41 true).run Try.prog w = .ok (.tuple #[v, .bool true]) w := assert_same Try.underlying41
theorem is_text (v : Value) (xt : TypeId) (w : World) : (Instr.typeAssert (.iface 43 v) xt 43 true).run Try.prog w = .ok (.tuple #[v, .bool true]) w := assert_same Try.underlying43
theorem not_open {t : TypeId} (h : t ≠ 37) (v : Value) (xt : TypeId) (w : World) : (Instr.typeAssert (.iface t v) xt 37 true).run Try.prog w = .ok (.tuple #[zOpen, .bool false]) w := assert_other Try.underlying37 h (by kernel_rfl)
theorem not_close {t : TypeId} (h : t ≠ 40) (v : Value) (xt : TypeId) (w : World) : (Instr.typeAssert (.iface t v) xt 40 true).run Try.prog w = .ok (.tuple #[zOne, .bool false]) w := assert_other Try.underlying40 h (by kernel_rfl)
theorem not_empty {t : TypeId} (h : t ≠ 41) (v : Value) (xt : TypeId) (w : World) : (Instr.typeAssert (.iface t v) xt 41 true).run Try.prog w = .ok (.tuple #[zOpen, .bool false]) w := assert_other Try.underlying41 h (by kernel_rfl)
end Go.Proofs.Ytcgmokjnjmefpab
