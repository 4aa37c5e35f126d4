/- What package tree answers, the answers spelt by the caller; hodmanlaw5's own helper begun answers true. -/
import Derived.Test.YtlbkicohmbdlhaaTreeS
import Derived.Test.YtlbkicohmbdlhaaTreeN
namespace Go.Proofs.Ytlbkicohmbdlhaa
open Go.RowKit

theorem tset_to (v : Value) (n : Nat) (ws : List Nat) (f m : Int) (on : Bool) (us : List Nat) (hu : setT n ws f m on = us) (w : World) (h : TreeAt w v n ws) (hm : m ≤ 9223372036854775807) :
    Calls Try.prog 16 #[v, .int .i64 f, .int .i64 m, .bool on] w fun e w' => ∃ v', e = .returned v' ∧ TreeNew w.heap.size w' v' n us ∧ Fresh w w' := by
  subst hu; exact tset_any v n ws f m on w h hm
/-- a tree's value, and its first level's cell -/
theorem TreeAt.shape {w : World} {v : Value} {n : Nat} {ws : List Nat} (h : TreeAt w v n ws) : ∃ b o cap, v = .agg #[.int .i64 (n : Int), .slice (some ⟨b, o, none⟩) (nLev n) cap] ∧ LvAt w (some ⟨b, o, none⟩) (nLev n) (lvV ws) := by
  obtain ⟨_, _, _, a, cap, rfl, hlv⟩ := h
  obtain ⟨b, o, rfl⟩ := hlv.len (nLev_in n).1
  exact ⟨b, o, cap, rfl, hlv⟩
theorem TreeAt.lit {w : World} {v : Value} {n : Nat} {ws : List Nat} (h : TreeAt w v n ws) (N : Int) (L : Nat) (hN : (n : Int) = N) (hL : nLev n = L) : ∃ b o cap, v = .agg #[.int .i64 N, .slice (some ⟨b, o, none⟩) L cap] ∧ LvAt w (some ⟨b, o, none⟩) L (lvV ws) := by
  subst hN; subst hL; exact h.shape
/-- a tree's value is laid in a variable of its own -/
theorem TreeAt.boxed {w : World} {v : Value} {n : Nat} {ws : List Nat} (h : TreeAt w v n ws) (c : Array Value) (t : TypeId) : TreeAt (w.alloc (.cells c t)) v n ws := h.fresh (fresh_box w c t)

end Go.Proofs.Ytlbkicohmbdlhaa
