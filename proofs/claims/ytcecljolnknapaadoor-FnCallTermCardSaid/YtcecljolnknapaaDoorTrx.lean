/-
  The error of reading texts stays where it is.
-/
import Derived.Test.YtcecljolnknapaaDoorPrw
namespace Go.Proofs.YtcecljolnknapaaDoor
open Go.RowKit

theorem Ev.under {w w' : World} {n : Nat} {a : Addr} (h : Ev w n a) (hb : Below w.heap.size w w') : Ev w' n a :=
  ⟨h.1, (World.cell?_of_block (w := w) (hb.block _ (World.block_lt_of_cell? _ _ h.2))).trans h.2⟩
end Go.Proofs.YtcecljolnknapaaDoor
