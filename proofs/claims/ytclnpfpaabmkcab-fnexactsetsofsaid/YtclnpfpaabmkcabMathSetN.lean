/-
  Sets told as a tree: no program in sight.
-/
import Derived.Test.YtclnpfpaabmkcabMathSets
import Derived.Test.YtclnpfpaabmkcabMathNode
namespace Go.Proofs.Ytclnpfpaabmkcab
open M
def davT : ByteArray := ⟨#[68, 65, 86, 58]⟩
def setT : ByteArray := ⟨#[115, 101, 116]⟩
def remT : ByteArray := ⟨#[114, 101, 109, 111, 118, 101]⟩
def prpT : ByteArray := ⟨#[112, 114, 111, 112]⟩
def updT : ByteArray := ⟨#[112, 114, 111, 112, 101, 114, 116, 121, 117, 112, 100, 97, 116, 101]⟩
/-- One that is to be, or not to be. -/
def leafN (s : Sx) : Nd := .mk s.2.1 s.2.2.1 (if s.1 then ⟨#[]⟩ else s.2.2.2) []
def prpN (s : Sx) : Nd := .mk davT prpT ⟨#[]⟩ [leafN s]
def setN (s : Sx) : Nd := .mk davT (if s.1 then remT else setT) ⟨#[]⟩ [prpN s]
def setsN (ss : List Sx) : Nd := .mk davT updT ⟨#[]⟩ (ss.map setN)
end Go.Proofs.Ytclnpfpaabmkcab
