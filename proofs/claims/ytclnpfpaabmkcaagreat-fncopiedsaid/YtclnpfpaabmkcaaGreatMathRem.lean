/-
  What is taken away: no program in sight.
-/
import Derived.Test.YtclnpfpaabmkcaaGreatSameTexts
namespace Go.Proofs.YtclnpfpaabmkcaaGreat
open M
/-- What Remove says, and answers. -/
def remI (rs : List Rs) (p : List ByteArray) : Int := if mayI rs p 0 ≠ 0 then mayI rs p 0 else if p.length = 0 then 403 else if findI rs p < 0 then 404 else 0
def remR (rs : List Rs) (p : List ByteArray) : List Rs := if remI rs p = 0 then withoutL rs p else rs
def remC (c : Int) : Int := if c = 0 then 204 else c

end Go.Proofs.YtclnpfpaabmkcaaGreat
