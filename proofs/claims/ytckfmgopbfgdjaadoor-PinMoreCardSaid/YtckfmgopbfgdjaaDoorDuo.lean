/- Pairs of bytes that came in stay where new memory alone is made. Of no program. -/
import Derived.Test.YtckfmgopbfgdjaaDoorOpen2
import Derived.Test.YtckfmgopbfgdjaaDoorMem
namespace Go.Proofs.YtckfmgopbfgdjaaDoor
open Go.RowKit

theorem duo_fresh {w w' : World} {a : Option Addr} {len : Nat} (h : IsDuo w a len) (k : Fresh w w') : IsDuo w' a len := by
  intro i hi
  obtain ⟨b, o, z0, z1, e, ⟨h0, b0⟩, ⟨h1, b1⟩⟩ := h i hi
  exact ⟨b, o, z0, z1, e, ⟨(k.cell (World.block_lt_of_cell? _ _ h0)).trans h0, b0⟩, ⟨(k.cell (World.block_lt_of_cell? _ _ h1)).trans h1, b1⟩⟩
end Go.Proofs.YtckfmgopbfgdjaaDoor
