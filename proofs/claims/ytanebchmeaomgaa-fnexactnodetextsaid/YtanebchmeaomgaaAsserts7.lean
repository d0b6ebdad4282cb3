/-
  What a type switch on a mark finds.
-/
import Derived.Test.YtanebchmeaomgaaRows
import Derived.WalkKit
import Derived.Laws.Entries
import Derived.Tactics
namespace Go.Proofs.Ytanebchmeaomgaa
open Go.RowKit

theorem assert_same {w : World} {t xt : TypeId} {fs : Array Field} {v : Value} (hu : Try.prog.underlying t = some (.struct fs)) :
    (Instr.typeAssert (.iface t v) xt t true).run Try.prog w = .ok (.tuple #[v, .bool true]) w := by
  simp [Instr.typeAssert, run_underlying hu]
theorem assert_other {w : World} {t u xt : TypeId} {fs : Array Field} {v z : Value} (hu : Try.prog.underlying u = some (.struct fs)) (hne : t ≠ u) (hz : (Try.prog.info? u).map (·.zero) = some (some z)) :
    (Instr.typeAssert (.iface t v) xt u true).run Try.prog w = .ok (.tuple #[z, .bool false]) w := by
  obtain ⟨j, hj, hz'⟩ := Option.map_eq_some_iff.1 hz
  simp [Instr.typeAssert, run_underlying hu, hne, typeInfo, zeroValue, hj, hz']

def zOpen : Value := .agg #[.string ⟨#[]⟩, .bool false, .string ⟨#[]⟩]
def zOne : Value := .agg #[.string ⟨#[]⟩]
theorem is_open (v : Value) (xt : TypeId) (w : World) : (Instr.typeAssert (.iface 62 v) xt 62 true).run Try.prog w = .ok (.tuple #[v, .bool true]) w := assert_same Try.underlying62
theorem is_close (v : Value) (xt : TypeId) (w : World) : (Instr.typeAssert (.iface 64 v) xt 64 true).run Try.prog w = .ok (.tuple #[v, .bool true]) w := assert_same Try.underlying64
theorem is_empty (v : Value) (xt : TypeId) (w : World) : (Instr.typeAssert (.iface 53 v) xt 53 true).run Try.prog w = .ok (.tuple #[v, .bool true]) w := assert_same Try.underlying53
theorem is_text (v : Value) (xt : TypeId) (w : World) : (Instr.typeAssert (.iface 72 v) xt 72 true).run Try.prog w = .ok (.tuple #[v, .bool true]) w := assert_same Try.underlying72
theorem not_open {t : TypeId} (h : t ≠ 62) (v : Value) (xt : TypeId) (w : World) : (Instr.typeAssert (.iface t v) xt 62 true).run Try.prog w = .ok (.tuple #[zOpen, .bool false]) w := assert_other Try.underlying62 h (by kernel_rfl)
theorem not_close {t : TypeId} (h : t ≠ 64) (v : Value) (xt : TypeId) (w : World) : (Instr.typeAssert (.iface t v) xt 64 true).run Try.prog w = .ok (.tuple #[zOne, .bool false]) w := assert_other Try.underlying64 h (by kernel_rfl)
theorem not_empty {t : TypeId} (h : t ≠ 53) (v : Value) (xt : TypeId) (w : World) : (Instr.typeAssert (.iface t v) xt 53 true).run Try.prog w = .ok (.tuple #[zOpen, .bool false]) w := assert_other Try.underlying53 h (by kernel_rfl)
end Go.Proofs.Ytanebchmeaomgaa
