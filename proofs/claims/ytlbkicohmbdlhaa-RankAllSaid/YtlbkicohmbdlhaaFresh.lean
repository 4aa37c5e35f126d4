/- Worlds that have new memory alone (Fresh), and rows of words carried into them; what a search answers. -/
import Derived.Test.YtlbkicohmbdlhaaRowMem
namespace Go.Proofs.Ytlbkicohmbdlhaa
open Go.RowKit

/-- new memory alone -/
abbrev Fresh (w w' : World) : Prop := Below w.heap.size w w'
theorem Fresh.refl (w : World) : Fresh w w := Below.refl _ _
theorem Fresh.trans {a b c : World} (h : Fresh a b) (k : Fresh b c) : Fresh a c := Below.trans h (k.mono h.size)
theorem Fresh.drewN (w : World) (n : Nat) : Fresh w (w.drewN n) := ⟨rfl, rfl, rfl, Nat.le_refl _, fun _ _ => rfl⟩
theorem WordsAt.fresh {w w' : World} {v : Value} {ws : List Nat} (h : WordsAt w v ws) (k : Fresh w w') : WordsAt w' v ws := h.below k (Nat.le_refl _)
def foundE (o : Option Nat) : Ending := .returned (.tuple #[.int .i64 ((o.getD 0 : Nat) : Int), .bool o.isSome])
end Go.Proofs.Ytlbkicohmbdlhaa
