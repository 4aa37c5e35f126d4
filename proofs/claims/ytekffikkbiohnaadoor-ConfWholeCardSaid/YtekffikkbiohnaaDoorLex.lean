/- A drawing region of many operations: the check that one walk in the order of the text serves every order, in parts (each a theorem of its own, so that the kernel's memory stays small). Of any program. -/
import Derived.Test.YtekffikkbiohnaaDoorChecked
import Derived.Deep.QuietTactic
import Derived.BigQuiet
import Derived.KernelRfl
namespace Go.Proofs.YtekffikkbiohnaaDoor
open Go

def findR (i : Nat) : Code → Option (Array Oper)
  | .region j ops _ => if i == j then some ops else none
  | .seq a b => (findR i a).or (findR i b)
  | .cond _ a b => (findR i a).or (findR i b)
  | .block _ a => findR i a
  | .loop a => findR i a
  | .scope a => findR i a
  | .rangeFunc _ _ a b => (findR i a).or (findR i b)
  | _ => none
/-- the operations of a function's region -/
def opsOf (i : Nat) (f : Func) : Array Oper := match f.body with
  | some c => (findR i c).getD #[]
  | none => #[]

def lst (n k : Nat) : Array Bool := (List.replicate k true ++ List.replicate (n - k) false).toArray
def lexStep (ops : Array Oper) (k : Nat) : Bool := (Region.ready .any ops (lst ops.size k)).contains k && Region.free .any ops (lst ops.size k) k
def lexPart (ops : Array Oper) (lo n : Nat) : Bool := (List.range n).all fun j => lexStep ops (lo + j)

theorem lexPart_at {ops : Array Oper} {lo n : Nat} (h : lexPart ops lo n = true) (k : Nat) (h1 : lo ≤ k) (h2 : k < lo + n) : lexStep ops k = true := by
  have := List.all_eq_true.1 h (k - lo) (List.mem_range.2 (by omega))
  rw [show lo + (k - lo) = k by omega] at this
  exact this

theorem lst_set (n k : Nat) (h : k < n) : (lst n k).setIfInBounds k true = lst n (k + 1) := by
  unfold lst
  rw [List.setIfInBounds_toArray]
  congr 1
  rw [List.set_append_right _ _ (by simp), List.length_replicate, Nat.sub_self, show n - k = (n - (k + 1)) + 1 by omega, List.replicate_succ, List.set_cons_zero, List.replicate_succ', List.append_assoc]
  rfl

theorem lexFrom_of (ops : Array Oper) (hk : ∀ k, k < ops.size → lexStep ops k = true) : ∀ n k, k + n = ops.size → Region.lexFrom .any ops n k (lst ops.size k) = true
  | 0, k, h => by
    have hk : k = ops.size := by omega
    subst hk
    unfold Region.lexFrom Region.ready
    rw [List.isEmpty_iff]
    refine List.filter_eq_nil_iff.2 fun i hi => ?_
    have hi' := List.mem_range.1 hi
    have e : (lst ops.size ops.size).getD i true = true := by
      unfold lst
      simp [hi']
    rw [e]
    simp
  | n + 1, k, h => by
    have h1 := hk k (by omega)
    unfold lexStep at h1
    rw [Bool.and_eq_true] at h1
    unfold Region.lexFrom
    rw [lst_set _ _ (by omega), lexFrom_of ops hk n (k + 1) (by omega), h1.1, h1.2]
    rfl

theorem lexB_of (ops : Array Oper) (hs : Region.noSelect ops = true) (hk : ∀ k, k < ops.size → lexStep ops k = true) : Region.lexB .any ops = true := by
  unfold Region.lexB
  have := lexFrom_of ops hk ops.size 0 (by omega)
  have e : lst ops.size 0 = Array.replicate ops.size false := by unfold lst; simp
  rw [hs, ← e, this]
  rfl

theorem lexB_as {l m : Array Oper} (e : l = m) (h : Region.lexB .any m = true) : Region.lexB .any l = true := by rw [e]; exact h
end Go.Proofs.YtekffikkbiohnaaDoor
