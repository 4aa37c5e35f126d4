/- Two rows of bools that grow side by side, in new memory; the literal of one bool that an append is handed; an append as one operation of a drawn region, and where it lies. -/
import Derived.Test.YtcnfmkhjhffebaaDoorIntMem
import Derived.Test.YtcnfmkhjhffebaaDoorBoolMem
import Derived.Maps.AppendAt
namespace Go.Proofs.YtcnfmkhjhffebaaDoor
open Go.RowKit

theorem wp_append_own_at {P : Program} (w : World) {o : Oper} {a : Act} {K : Act → World → Prop} {Q : Exit → Act → World → Prop} (s x : Operand) (t : TypeId)
    (ho : o.op = .call { callee := .builtin .append, args := #[s, x], argTypes := #[t, t] })
    (base : Nat) (e : TypeId) (i : TypeInfo) (z : Value) (size bytes : Nat) (ht : P.underlying t = some (.slice e)) (hi : P.info? e = some i) (hz : i.zero = some z)
    (hsize : i.size = size) (hby : i.bytes = bytes) (hzs : z.cells.size = size) (hsz : 0 < size)
    (v : Value) (n : Nat) (xs : List Value) (hs : a.eval s = v) (hown : w.ownsRow base e size v n xs)
    (ad : Addr) (m c : Nat) (news : List Value) (hx : a.eval x = .slice (some ad) m c) (hl : news.length = m * size) (hnews : ∀ j u, news[j]? = some u → w.cell? (ad.add j) = some u) (h1 : ∀ u ∈ news, u.oneCell' = true)
    (h63 : n + m ≤ maxLen) (hbytes : (n + m) * bytes ≤ 140737488355328) (hbase : base ≤ w.heap.size)
    (h : ∀ v' w', w'.ownsRow base e size v' (n + m) (xs ++ news) → w.grownBy w' v.ownBlock → (v'.ownBlock = v.ownBlock ∨ v'.ownBlock = some w.heap.size) → K (a.put o.dst v') w') : o.wp P a w K Q := by
  obtain ⟨v', w', hr, h2, h3, _, h5⟩ := run_append_own_at (P := P) w base t o.type e i z size bytes ht hi hz hsize hby hzs hsz v n xs hown ad m c news hl hnews h1 h63 hbytes hbase
  unfold Oper.wp execOp
  simp only [ho, resolve, invoke, builtin, Sem.run_bind, Sem.run_pure, Result.andThen_ok, List.map_toArray, List.map_cons, List.map_nil, hs, hx, hr]
  exact h v' w' h2 h3 h5
/-- two rows side by side -/
structure Two (W : World) (base : Nat) (av bv : Value) (xs ys : List Bool) (w : World) : Prop where
  a : OwnB w base av xs
  b : OwnB w base bv ys
  ap : ∀ i, av.ownBlock = some i → bv.ownBlock ≠ some i
  f : Fresh W w
  le : W.heap.size ≤ base
  lb : base ≤ w.heap.size
theorem OwnB.block {w : World} {base : Nat} {v : Value} {l : List Bool} (h : OwnB w base v l) (i : Nat) (hi : v.ownBlock = some i) : base ≤ i ∧ i < w.heap.size := by
  rcases h.2 with ⟨rfl, _⟩ | ⟨g, cap, cur, rfl, hb, hg, _⟩
  · cases hi
  · have : g = i := by simpa [Value.ownBlock] using hi
    subst this
    exact ⟨hb, (Array.getElem?_eq_some_iff.1 hg).1⟩
theorem Two.start (W : World) : Two W W.heap.size (.slice none 0 0) (.slice none 0 0) [] [] W :=
  ⟨World.ownsRow_nil _ _ _ _, World.ownsRow_nil _ _ _ _, fun i hi => (by cases hi), Fresh.refl _, Nat.le_refl _, Nat.le_refl _⟩
theorem Two.fresh {W : World} {base : Nat} {av bv : Value} {xs ys : List Bool} {w w' : World} (h : Two W base av bv xs ys w) (k : Fresh w w') : Two W base av bv xs ys w' :=
  ⟨h.a.fresh k, h.b.fresh k, h.ap, h.f.trans k, h.le, Nat.le_trans h.lb k.size⟩
theorem ownB_push {w' : World} {base : Nat} {v' : Value} {l : List Bool} {x : Bool} (hown : w'.ownsRow base 4 1 v' (l.length + 1) (bvals l ++ [.bool x])) : OwnB w' base v' (l ++ [x]) := by
  unfold OwnB bvals
  rw [List.map_append, List.length_append]
  exact hown
theorem Two.left {W : World} {base : Nat} {av bv v' : Value} {xs ys : List Bool} {x : Bool} {w w' : World} (h : Two W base av bv xs ys w) (hown : w'.ownsRow base 4 1 v' (xs.length + 1) (bvals xs ++ [.bool x])) (hg : w.grownBy w' av.ownBlock) (hl : v'.ownBlock = av.ownBlock ∨ v'.ownBlock = some w.heap.size) :
    Two W base v' bv (xs ++ [x]) ys w' :=
  ⟨ownB_push hown, ownsRow_off h.b hg fun i hi e => h.ap i e.symm hi, fun i hi hb => by
      rcases hl with e | e
      · exact h.ap i (e ▸ hi) hb
      · rw [e] at hi; cases hi
        exact absurd (h.b.block _ hb).2 (Nat.lt_irrefl _),
    h.f.grown hg h.f.size fun i hi => Nat.le_trans h.le (h.a.block i hi).1, h.le, Nat.le_trans h.lb hg.size⟩
theorem Two.right {W : World} {base : Nat} {av bv v' : Value} {xs ys : List Bool} {y : Bool} {w w' : World} (h : Two W base av bv xs ys w) (hown : w'.ownsRow base 4 1 v' (ys.length + 1) (bvals ys ++ [.bool y])) (hg : w.grownBy w' bv.ownBlock) (hl : v'.ownBlock = bv.ownBlock ∨ v'.ownBlock = some w.heap.size) :
    Two W base av v' xs (ys ++ [y]) w' :=
  ⟨ownsRow_off h.a hg fun i hi e => h.ap i hi e.symm, ownB_push hown, fun i hi hb => by
      rcases hl with e | e
      · exact h.ap i hi (e ▸ hb)
      · rw [e] at hb; cases hb
        exact absurd (h.a.block _ hi).2 (Nat.lt_irrefl _),
    h.f.grown hg h.f.size fun i hi => Nat.le_trans h.le (h.b.block i hi).1, h.le, Nat.le_trans h.lb hg.size⟩
/-- a literal of one bool, beside the two -/
structure Lit1 (w : World) (R : Nat) (x : Bool) (av bv : Value) : Prop where
  heap : w.heap[R]? = some (.cells #[.bool x] 4 (0, 0))
  na : av.ownBlock ≠ some R
  nb : bv.ownBlock ≠ some R
theorem Lit1.made {W : World} {base : Nat} {av bv : Value} {xs ys : List Bool} {w : World} (h : Two W base av bv xs ys w) (x : Bool) : Lit1 (w.alloc (.cells #[.bool x] 4)) w.heap.size x av bv :=
  ⟨heap_alloc_new w _, fun e => absurd (h.a.block _ e).2 (Nat.lt_irrefl _), fun e => absurd (h.b.block _ e).2 (Nat.lt_irrefl _)⟩
theorem Lit1.fresh {w w' : World} {R : Nat} {x : Bool} {av bv : Value} (h : Lit1 w R x av bv) (k : Fresh w w') : Lit1 w' R x av bv :=
  ⟨(k.block R (Array.getElem?_eq_some_iff.1 h.heap).1).trans h.heap, h.na, h.nb⟩
theorem Lit1.after {w w' : World} {R : Nat} {x : Bool} {av bv v' : Value} (h : Lit1 w R x av bv) (hg : w.grownBy w' av.ownBlock) (hl : v'.ownBlock = av.ownBlock ∨ v'.ownBlock = some w.heap.size) : Lit1 w' R x v' bv := by
  have hR := (Array.getElem?_eq_some_iff.1 h.heap).1
  refine ⟨(hg.block R hR (fun e => h.na e.symm)).trans h.heap, fun e => ?_, h.nb⟩
  rcases hl with e2 | e2
  · rw [e2] at e; exact h.na e
  · rw [e2] at e; cases e; omega
theorem Lit1.news {w : World} {R : Nat} {x : Bool} {av bv : Value} (h : Lit1 w R x av bv) : ∀ j u, [Value.bool x][j]? = some u → w.cell? ((⟨R, 0, none⟩ : Addr).add j) = some u := by
  intro j u hu
  rw [Go.WideShapes.add_plain, Nat.zero_add]
  match j, hu with
  | 0, hu => exact cell_block h.heap 0 _ hu
  | j + 1, hu => simp at hu
theorem two_alloc {W : World} {base : Nat} {av bv : Value} {xs ys : List Bool} (w : World) (x : Bool) (h : Two W base av bv xs ys w) {p : World → Prop} (hp : ∀ w', Fresh w w' → Two W base av bv xs ys w' → Lit1 w' w.heap.size x av bv → p w') : p (w.alloc (.cells #[.bool x] 4)) :=
  hp _ (fresh_box _ _ _) (h.fresh (fresh_box _ _ _)) (Lit1.made h x)
end Go.Proofs.YtcnfmkhjhffebaaDoor
