/- Worlds that have new memory alone (Fresh), and rows of words carried into them; what a search answers. -/
import Derived.Test.YtpkcihfldmgehaaRowMem
namespace Go.Proofs.Ytpkcihfldmgehaa
open Go.RowKit

theorem WordsAt.fresh {w w' : World} {v : Value} {ws : List Nat} (h : WordsAt w v ws) (k : Fresh w w') : WordsAt w' v ws := h.below k (Nat.le_refl _)
def foundE (o : Option Nat) : Ending := .returned (.tuple #[.int .i64 ((o.getD 0 : Nat) : Int), .bool o.isSome])
end Go.Proofs.Ytpkcihfldmgehaa
