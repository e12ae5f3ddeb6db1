/-
  The texts of gaps, clashes and doubts; plain data only.
-/
import Derived.Test.YtajannebpejpkaaDoorZd
namespace Go.Proofs.YtajannebpejpkaaDoor
open Go.RowKit

def gapT (nm : List UInt8) (zs : List Int) : List UInt8 := nm ++ [32, 111, 102, 32] ++ fmtN zs
def clashT (a b : Int) (zs : List Int) : List UInt8 := Lib.itoa a ++ [32, 97, 110, 100, 32] ++ Lib.itoa b ++ [32, 97, 116, 32] ++ fmtN zs
def valT (a c : Int) : List UInt8 := Lib.itoa a ++ [58] ++ Lib.itoa c
def doubtT (a b c : Int) (zs ys : List Int) : List UInt8 := valT a c ++ [32, 116, 111, 32] ++ Lib.itoa b ++ [32, 98, 121, 32] ++ fmtN zs ++ [32, 111, 114, 32] ++ fmtN ys
theorem I64.len {z : Int} (h : I64 z) : (Lib.itoa z).length ≤ 20 := itoa_len h
end Go.Proofs.YtajannebpejpkaaDoor
