/- A struct of one int as a map's key (kl, IntKey), and the map from the first of each pair to its place (Dm). Of no program. -/
import Derived.Test.YtkcmhdedabcabaaPairMem
import Derived.Maps.OwnSet
import Derived.MapKept
namespace Go.Proofs.Ytkcmhdedabcabaa
open Go.RowKit Go.Maps

theorem key_gen {P : Program} {k e : TypeId} {f : Field} (hu : P.underlying k = some (.struct #[f])) (hk : P.keyType k = true) (hc : P.cellsOf k = 1) (hf : f.type = e) (ho : f.offset = 0) (hnm : (f.name != "_") = true) (he : P.underlying e = some (.int .i64)) (hce : P.cellsOf e = 1) {n : Nat} (hn : P.types.size = n + 1)
    (a : Int) (hw : (Lit.int .i64 a).wf = true) : keyOf P k (.agg #[.int .i64 a]) = some (.string (keyBytes [.int .i64 a])) := by
  unfold keyOf
  simp only [hu, hn]
  have h1 : P.keyLits n.succ.succ k [.int .i64 a] = some [.int .i64 a] := by
    have hnm' : ¬ f.name = "_" := by simpa using hnm
    simp [Program.keyLits, hu, hc, hf, ho, hnm', he, hce, hw]
  have h2 : (Value.agg #[.int .i64 a]).formed P k = true := by simp [Value.formed, hu, hc]
  rw [hk, h2]
  have h3 : (Value.agg #[.int .i64 a]).cells.toList = [.int .i64 a] := by simp [Value.cells]
  simp only [Bool.and_self, if_true, h3]
  rw [show n + 1 + 1 = n.succ.succ from rfl, h1]
  rfl
/-- what a struct of one int reads as -/
def kl (a : Int) : Lit := .string (keyBytes [.int .i64 a])
/-- a type of structs of one int, as keys -/
structure IntKey (P : Program) (T : TypeId) : Prop where
  law : Keyed P T
  of : ∀ a : Int, -9223372036854775808 ≤ a → a ≤ 9223372036854775807 → keyOf P T (.agg #[.int .i64 a]) = some (kl a)
theorem IntKey.inj {P : Program} {T : TypeId} (K : IntKey P T) {a b : Int} (h1 : -9223372036854775808 ≤ a) (h2 : a ≤ 9223372036854775807) (h3 : -9223372036854775808 ≤ b) (h4 : b ≤ 9223372036854775807) (e : kl a = kl b) : a = b := by
  have ha := K.of a h1 h2
  have hb := K.of b h3 h4
  rw [e] at ha
  have := K.law.inj ha hb
  simpa using this
theorem IntKey.key {P : Program} {T : TypeId} (K : IntKey P T) {a : Int} (h1 : -9223372036854775808 ≤ a) (h2 : a ≤ 9223372036854775807) : WideAt.IsKeyLit (kl a) := K.law.key (K.of a h1 h2)

/-- the map, pair by pair -/
def Dm (ps : List Pc) : Nat → DataW Unit
  | 0 => .map []
  | j + 1 => (Dm ps j).put (kl (nth ps j).1) (.lit (.int .i64 (j : Int)))
theorem Dm_map (ps : List Pc) : ∀ j, IsMap (Dm ps j)
  | 0 => isMap_empty
  | j + 1 => (Dm_map ps j).put _ _
theorem Dm_none {P : Program} {T : TypeId} (K : IntKey P T) (ps : List Pc) (hin : ∀ p ∈ ps, In64 p) (a : Int) (h1 : -9223372036854775808 ≤ a) (h2 : a ≤ 9223372036854775807) : ∀ j, (∀ t, t < j → (nth ps t).1 ≠ a) → Maps.has (Dm ps j) (kl a) = false
  | 0, _ => rfl
  | j + 1, h => by
    have hj := in64_nth hin j
    unfold Dm
    rw [has_put_other (fun e => h j (by omega) (K.inj h1 h2 hj.1 hj.2.1 e).symm)]
    exact Dm_none K ps hin a h1 h2 j fun t ht => h t (by omega)
theorem Dm_some {P : Program} {T : TypeId} (K : IntKey P T) (ps : List Pc) (hin : ∀ p ∈ ps, In64 p) (hv : ∀ i j, i < ps.length → j < ps.length → (nth ps i).1 = (nth ps j).1 → i = j) (i : Nat) (hi : i < ps.length) : ∀ j, i < j → j ≤ ps.length → Maps.has (Dm ps j) (kl (nth ps i).1) = true ∧ ∀ z, (Dm ps j).atKey (kl (nth ps i).1) z = .lit (.int .i64 (i : Int))
  | 0, h, _ => by omega
  | j + 1, h, hl => by
    have hj := in64_nth hin j
    have hii := in64_nth hin i
    unfold Dm
    by_cases e : i = j
    · subst e
      exact ⟨has_put_same (Dm_map ps i) (K.key hii.1 hii.2.1) _, fun z => atKey_put_same (Dm_map ps i) (K.key hii.1 hii.2.1) _ z⟩
    · have hne : kl (nth ps i).1 ≠ kl (nth ps j).1 := fun e' => e (hv i j hi (by omega) (K.inj hii.1 hii.2.1 hj.1 hj.2.1 e'))
      have ih := Dm_some K ps hin hv i hi j (by omega) (by omega)
      exact ⟨by rw [has_put_other hne]; exact ih.1, fun z => by rw [atKey_put_other hne]; exact ih.2 z⟩
/-- 'v, ok := m[k]' of ints, what it runs to -/
theorem look_int {P : Program} {w : World} {t k e : TypeId} {b n : Nat} {D : DataW Unit} (K : Keyed P k) (ht : P.underlying t = some (.map k e)) (he : P.underlying e = some (.int .i64)) (hz : (zeroValue e).run P w = .ok (.int .i64 0) w) (h : w.ownsMap P k (plainElem P e) b n D) {key : Value} {l : Lit} (hkey : keyOf P k key = some l) :
    ∃ c : Int, D.atKey l (.lit (.int .i64 0)) = .lit (.int .i64 c) ∧ (Instr.lookup t (.map (some b)) key true).run P w = .ok (.tuple #[.int .i64 c, .bool (Maps.has D l)]) w := by
  obtain ⟨v, ps, hrun, hv⟩ := h.look_ok K ht hz (plainElem_int he (a := 0) (by decide)) hkey
  obtain ⟨c, rfl, hc, _⟩ := plainElem_int_inv he hv
  exact ⟨c, congrArg Prod.fst hc, hrun⟩
/-- 'v, ok := m[k]' as one operation of a drawn region -/
theorem wp_lookup_run {P : Program} {w : World} {o : Oper} {a : Act} {K : Act → World → Prop} {Q : Exit → Act → World → Prop} (m x : Operand) (t : TypeId) (hop : o.op = Op.lookup t m x true) (mv key v : Value) (hm : a.eval m = mv) (hx : a.eval x = key)
    (hrun : (Instr.lookup t mv key true).run P w = .ok v w) (h : K (a.put o.dst v) w) : o.wp P a w K Q := by
  unfold Oper.wp
  simp [execOp, hop, hm, hx, hrun, Result.andThen]
  exact h
end Go.Proofs.Ytkcmhdedabcabaa
