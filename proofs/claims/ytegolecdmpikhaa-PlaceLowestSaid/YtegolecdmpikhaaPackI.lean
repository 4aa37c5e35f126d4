/- Several texts as one: Parts, KeyGen, SideA, SideC, SideB. -/
import Derived.Test.YtegolecdmpikhaaPackF
import Derived.Maps.OwnSet
import Derived.MapKept
import Derived.Deep.RegionHeld3
import Derived.Lib.AppendZeros
import Derived.Test.YtegolecdmpikhaaPackE
import Derived.Handy
import Derived.OwnWalk
/- Rows of pairs side by side (flat, PartsAt): what slices.Concat is handed. Of no types of a program. -/
namespace Go.Proofs.Ytegolecdmpikhaa
open Go.RowKit

def flat (f : Nat → List Pc) : Nat → List Pc
  | 0 => []
  | k + 1 => flat f k ++ f k
theorem flat_length (f : Nat → List Pc) (h : ∀ i, i < 3 → (f i).length ≤ 1048576) : ∀ k, k ≤ 3 → (flat f k).length ≤ k * 1048576
  | 0, _ => by simp [flat]
  | k + 1, hk => by
    have := flat_length f h k (by omega)
    have := h k (by omega)
    simp [flat]
    omega
/-- parts in a row -/
def PartsAt (w : World) (b o k : Nat) (V : Nat → Value) (f : Nat → List Pc) : Prop := ∀ i, i < k → w.cell? ⟨b, o + i, none⟩ = some (V i) ∧ SpansIn w (V i) (f i)
theorem PartsAt.fresh {w w' : World} {b o k : Nat} {V : Nat → Value} {f : Nat → List Pc} (h : PartsAt w b o k V f) (hf : Fresh w w') : PartsAt w' b o k V f :=
  fun i hi => ⟨(hf.cell (World.block_lt_of_cell? _ _ (h i hi).1)).trans (h i hi).1, (h i hi).2.fresh hf⟩
theorem flat2 (A B : List Pc) : flat (fun i => [A, B].getD i []) 2 = A ++ B := by simp [flat]
theorem flat3 (A B C : List Pc) : flat (fun i => [A, B, C].getD i []) 3 = A ++ B ++ C := by simp [flat]
/-- a new block of parts -/
theorem parts_next (w : World) (c : Array Value) (t : TypeId) {p : World → Prop} (h : ∀ w5, w5.heap[w.heap.size]? = some (.cells c t (0, 0)) → Fresh w w5 → p w5) : p (w.alloc (.cells c t)) :=
  h _ (heap_alloc_new w _) (fresh_box _ _ _)
/-- two parts -/
theorem parts2 {w : World} {g : Nat} {t : TypeId} {V0 V1 : Value} {f0 f1 : List Pc} (hb : w.heap[g]? = some (.cells #[V0, V1] t (0, 0))) (h0 : SpansIn w V0 f0) (h1 : SpansIn w V1 f1) :
    PartsAt w g 0 2 (fun i => [V0, V1].getD i undef) (fun i => [f0, f1].getD i []) := by
  intro i hi
  match i, hi with
  | 0, _ => exact ⟨cell_block hb 0 _ rfl, h0⟩
  | 1, _ => exact ⟨cell_block hb 1 _ rfl, h1⟩
/-- three parts -/
theorem parts3 {w : World} {g : Nat} {t : TypeId} {V0 V1 V2 : Value} {f0 f1 f2 : List Pc} (hb : w.heap[g]? = some (.cells #[V0, V1, V2] t (0, 0))) (h0 : SpansIn w V0 f0) (h1 : SpansIn w V1 f1) (h2 : SpansIn w V2 f2) :
    PartsAt w g 0 3 (fun i => [V0, V1, V2].getD i undef) (fun i => [f0, f1, f2].getD i []) := by
  intro i hi
  match i, hi with
  | 0, _ => exact ⟨cell_block hb 0 _ rfl, h0⟩
  | 1, _ => exact ⟨cell_block hb 1 _ rfl, h1⟩
  | 2, _ => exact ⟨cell_block hb 2 _ rfl, h2⟩
/-- one pair in a new block -/
theorem pairIn_one (w : World) (t : TypeId) (s1 s2 : Int) (h : In64 (s1, s2)) : SpansIn (w.alloc (.cells #[.int .i64 s1, .int .i64 s2] t)) (.slice (some ⟨w.heap.size, 0, none⟩) 1 1) [(s1, s2)] := by
  have hb := heap_alloc_new w (.cells #[.int .i64 s1, .int .i64 s2] t (0, 0))
  refine spansIn_some (ps := [(s1, s2)]) (by simp) (by simp) (by decide) (fun p hp => by simp at hp; rw [hp]; exact h) fun i hi => ?_
  have hi0 : i = 0 := by simpa using hi
  subst hi0
  exact ⟨cell_block hb 0 _ rfl, cell_block hb 1 _ rfl⟩
theorem wrap_next {i : Nat} (h : (i : Int) + 1 ≤ 9223372036854775807) : IntKind.i64.wrap ((i : Int) + 1) = ((i + 1 : Nat) : Int) := by
  have : IntKind.i64.wrap ((i : Int) + 1) = (i : Int) + 1 := by rw [IntKind.wrap_i64]; omega
  rw [this]; omega
/-- a pair in a block -/
def PairB (W : World) (n : Nat) (s1 s2 : Int) (w : World) : Prop := w.cell? ⟨n, 0, none⟩ = some (.int .i64 s1) ∧ w.cell? ⟨n, 1, none⟩ = some (.int .i64 s2) ∧ Fresh W w
theorem PairB.fresh {W : World} {n : Nat} {s1 s2 : Int} {w w' : World} (h : PairB W n s1 s2 w) (k : Fresh w w') : PairB W n s1 s2 w' := by
  obtain ⟨a, b, e⟩ := h
  exact ⟨(k.cell (World.block_lt_of_cell? _ _ a)).trans a, (k.cell (World.block_lt_of_cell? _ _ b)).trans b, e.trans k⟩
/-- a pair of what is handed over -/
def PairC (W : World) (b o : Nat) (p1 p2 : Int) (w : World) : Prop := w.cell? ⟨b, o, none⟩ = some (.int .i64 p1) ∧ w.cell? ⟨b, o + 1, none⟩ = some (.int .i64 p2) ∧ Fresh W w
theorem PairC.fresh {W : World} {b o : Nat} {p1 p2 : Int} {w w' : World} (h : PairC W b o p1 p2 w) (k : Fresh w w') : PairC W b o p1 p2 w' := by
  obtain ⟨a, b, e⟩ := h
  exact ⟨(k.cell (World.block_lt_of_cell? _ _ a)).trans a, (k.cell (World.block_lt_of_cell? _ _ b)).trans b, e.trans k⟩
end Go.Proofs.Ytegolecdmpikhaa
/- A struct of one int as a map's key (kl, IntKey), and the map from the first of each pair to its place (Dm). Of no program. -/
namespace Go.Proofs.Ytegolecdmpikhaa
open Go.RowKit Go.Maps

theorem key_gen {P : Program} {k e : TypeId} {f : Field} (hu : P.underlying k = some (.struct #[f])) (hk : P.keyType k = true) (hc : P.cellsOf k = 1) (hf : f.type = e) (ho : f.offset = 0) (hnm : (f.name != "_") = true) (he : P.underlying e = some (.int .i64)) (hce : P.cellsOf e = 1) {n : Nat} (hn : P.types.size = n + 1)
    (a : Int) (hw : (Lit.int .i64 a).wf = true) : keyOf P k (.agg #[.int .i64 a]) = some (.string (keyBytes [.int .i64 a])) := by
  unfold keyOf
  simp only [hu, hn]
  have h1 : P.keyLits n.succ.succ k [.int .i64 a] = some [.int .i64 a] := by
    have hnm' : ¬ f.name = "_" := by simpa using hnm
    simp [Program.keyLits, hu, hc, hf, ho, hnm', he, hce, hw]
  have h2 : (Value.agg #[.int .i64 a]).formed P k = true := by simp [Value.formed, hu, hc]
  rw [hk, h2]
  have h3 : (Value.agg #[.int .i64 a]).cells.toList = [.int .i64 a] := by simp [Value.cells]
  simp only [Bool.and_self, if_true, h3]
  rw [show n + 1 + 1 = n.succ.succ from rfl, h1]
  rfl
/-- what a struct of one int reads as -/
def kl (a : Int) : Lit := .string (keyBytes [.int .i64 a])
/-- a type of structs of one int, as keys -/
structure IntKey (P : Program) (T : TypeId) : Prop where
  law : Keyed P T
  of : ∀ a : Int, -9223372036854775808 ≤ a → a ≤ 9223372036854775807 → keyOf P T (.agg #[.int .i64 a]) = some (kl a)
theorem IntKey.inj {P : Program} {T : TypeId} (K : IntKey P T) {a b : Int} (h1 : -9223372036854775808 ≤ a) (h2 : a ≤ 9223372036854775807) (h3 : -9223372036854775808 ≤ b) (h4 : b ≤ 9223372036854775807) (e : kl a = kl b) : a = b := by
  have ha := K.of a h1 h2
  have hb := K.of b h3 h4
  rw [e] at ha
  have := K.law.inj ha hb
  simpa using this
theorem IntKey.key {P : Program} {T : TypeId} (K : IntKey P T) {a : Int} (h1 : -9223372036854775808 ≤ a) (h2 : a ≤ 9223372036854775807) : WideAt.IsKeyLit (kl a) := K.law.key (K.of a h1 h2)

/-- the map, pair by pair -/
def Dm (ps : List Pc) : Nat → DataW Unit
  | 0 => .map []
  | j + 1 => (Dm ps j).put (kl (nth ps j).1) (.lit (.int .i64 (j : Int)))
theorem Dm_map (ps : List Pc) : ∀ j, IsMap (Dm ps j)
  | 0 => isMap_empty
  | j + 1 => (Dm_map ps j).put _ _
theorem Dm_none {P : Program} {T : TypeId} (K : IntKey P T) (ps : List Pc) (hin : ∀ p ∈ ps, In64 p) (a : Int) (h1 : -9223372036854775808 ≤ a) (h2 : a ≤ 9223372036854775807) : ∀ j, (∀ t, t < j → (nth ps t).1 ≠ a) → Maps.has (Dm ps j) (kl a) = false
  | 0, _ => rfl
  | j + 1, h => by
    have hj := in64_nth hin j
    unfold Dm
    rw [has_put_other (fun e => h j (by omega) (K.inj h1 h2 hj.1 hj.2.1 e).symm)]
    exact Dm_none K ps hin a h1 h2 j fun t ht => h t (by omega)
theorem Dm_some {P : Program} {T : TypeId} (K : IntKey P T) (ps : List Pc) (hin : ∀ p ∈ ps, In64 p) (hv : ∀ i j, i < ps.length → j < ps.length → (nth ps i).1 = (nth ps j).1 → i = j) (i : Nat) (hi : i < ps.length) : ∀ j, i < j → j ≤ ps.length → Maps.has (Dm ps j) (kl (nth ps i).1) = true ∧ ∀ z, (Dm ps j).atKey (kl (nth ps i).1) z = .lit (.int .i64 (i : Int))
  | 0, h, _ => by omega
  | j + 1, h, hl => by
    have hj := in64_nth hin j
    have hii := in64_nth hin i
    unfold Dm
    by_cases e : i = j
    · subst e
      exact ⟨has_put_same (Dm_map ps i) (K.key hii.1 hii.2.1) _, fun z => atKey_put_same (Dm_map ps i) (K.key hii.1 hii.2.1) _ z⟩
    · have hne : kl (nth ps i).1 ≠ kl (nth ps j).1 := fun e' => e (hv i j hi (by omega) (K.inj hii.1 hii.2.1 hj.1 hj.2.1 e'))
      have ih := Dm_some K ps hin hv i hi j (by omega) (by omega)
      exact ⟨by rw [has_put_other hne]; exact ih.1, fun z => by rw [atKey_put_other hne]; exact ih.2 z⟩
/-- 'v, ok := m[k]' of ints, what it runs to -/
theorem look_int {P : Program} {w : World} {t k e : TypeId} {b n : Nat} {D : DataW Unit} (K : Keyed P k) (ht : P.underlying t = some (.map k e)) (he : P.underlying e = some (.int .i64)) (hz : (zeroValue e).run P w = .ok (.int .i64 0) w) (h : w.ownsMap P k (plainElem P e) b n D) {key : Value} {l : Lit} (hkey : keyOf P k key = some l) :
    ∃ c : Int, D.atKey l (.lit (.int .i64 0)) = .lit (.int .i64 c) ∧ (Instr.lookup t (.map (some b)) key true).run P w = .ok (.tuple #[.int .i64 c, .bool (Maps.has D l)]) w := by
  obtain ⟨v, ps, hrun, hv⟩ := h.look_ok K ht hz (plainElem_int he (a := 0) (by decide)) hkey
  obtain ⟨c, rfl, hc, _⟩ := plainElem_int_inv he hv
  exact ⟨c, congrArg Prod.fst hc, hrun⟩
/-- 'v, ok := m[k]' as one operation of a drawn region -/
theorem wp_lookup_run {P : Program} {w : World} {o : Oper} {a : Act} {K : Act → World → Prop} {Q : Exit → Act → World → Prop} (m x : Operand) (t : TypeId) (hop : o.op = Op.lookup t m x true) (mv key v : Value) (hm : a.eval m = mv) (hx : a.eval x = key)
    (hrun : (Instr.lookup t mv key true).run P w = .ok v w) (h : K (a.put o.dst v) w) : o.wp P a w K Q := by
  unfold Oper.wp
  simp [execOp, hop, hm, hx, hrun, Result.andThen]
  exact h
end Go.Proofs.Ytegolecdmpikhaa
/- What the program's side answers of marks (ahead, copied, places), as contracts. -/
namespace Go.Proofs.Ytegolecdmpikhaa
open Go.RowKit Go.Maps

set_option maxRecDepth 100000 in
theorem mahead_any (v : Value) (ps : List Pc) (x : Int) (w : World) (h : SpansAt w v ps) :
    Calls Try.prog 42 #[v, .int .i64 x] w fun e w' => e = .returned (.int .i64 (aheadN ps x : Nat)) ∧ w' = w := by
  have H := hide h
  obtain ⟨a, cap, rfl, hl, hl2, hl3, h4, hn0, hc⟩ := h
  have l0 : (0 : Int) ≤ (ps.length : Int) := by omega
  have l1 : (ps.length : Int) ≤ 1048576 := by omega
  have C := hide hc
  clear hl hl2 hl3 h4 hn0 hc
  go_enter Try.func42, Try.ntmps42
  go_wp2
  go_loop [5] (fun i => ∃ (j : Nat), j ≤ ps.length ∧ i = .int .i64 (j : Int) ∧ ∀ t, t < j → (nth ps t).1 < x) (fun i => (ps.length - intOf i).toNat)
  case atStart => exact ⟨0, Nat.zero_le _, rfl, fun t ht => by omega⟩
  case round =>
    obtain ⟨j, hj, rfl, ha⟩ := hrel
    have A := hide ha
    clear ha
    by_cases g : j < ps.length
    · have g' : (j : Int) < (ps.length : Int) := by omega
      obtain ⟨b, o, rfl, c0, c1⟩ := C.out j g
      by_cases g2 : (nth ps j).1 < x
      · have A2 := hide (show ∀ t, t < j + 1 → (nth ps t).1 < x from fun t ht => by
          rcases Nat.lt_or_ge t j with h | h
          · exact A.out t h
          · rw [show t = j by omega]; exact g2)
        generalize nth ps j = p at *
        go_wp2
        go_round
        case rel => exact ⟨j + 1, by omega, by go_num, A2.out⟩
        case measure => simp [intOf]; omega
      · have N := hide (ahead_eq (a := x) hj A.out (fun _ => by omega))
        have g3 : x ≤ (nth ps j).1 := by omega
        clear g2
        generalize nth ps j = p at *
        go_wp2
        go_ret
        exact ⟨ret_int (by rw [N.out]), rfl⟩
    · obtain rfl : j = ps.length := by omega
      have N := hide (ahead_eq (a := x) hj A.out (fun h => by omega))
      go_wp2
      go_ret
      exact ⟨ret_int (by rw [N.out]), rfl⟩

set_option maxRecDepth 100000 in
theorem mcopied_any (v : Value) (ps : List Pc) (w : World) (h : SpansIn w v ps) :
    Calls Try.prog 46 #[v] w fun e w' => ∃ u, e = .returned u ∧ OwnM w' w.heap.size u ps ∧ Fresh w w' := by
  have H := hide h
  obtain ⟨i0, hi, hz0, hz1, hz2⟩ := infoOf infoMark
  rcases h.cases with ⟨rfl, rfl⟩ | ⟨b, o, cap, rfl, h1, h2, h3, h4, hc⟩
  · clear h
    go_enter Try.func46, Try.ntmps46
    go_wp2_with (at_builtin; refine wpList_append_own_none rfl _ _ 27 rfl w.heap.size 37 i0 2 Try.underlying27 hi (.slice none 0 0) 0 [] rfl (World.ownsRow_nil _ _ _ _) rfl ?_)
    go_ret
    exact ⟨_, rfl, OwnM.nil _ _, Fresh.refl _⟩
  · have NW := hide H.out.news
    have WL := hide (svals_length ps)
    have W1 := hide (svals_one ps)
    have m1 : 0 + ps.length ≤ maxLen := by unfold maxLen; omega
    have m2 : (0 + ps.length) * 16 ≤ 140737488355328 := by omega
    have FIN := hide (show ∀ v1 w1, w1.ownsRow w.heap.size 37 2 v1 (0 + ps.length) ([] ++ svals ps) → w.grownBy w1 (Value.slice none 0 0).ownBlock → OwnM w1 w.heap.size v1 ps ∧ Fresh w w1 from fun v1 w1 ho hg => by
      rw [Nat.zero_add, List.nil_append] at ho
      exact ⟨ho, (Fresh.refl w).grown hg (Nat.le_refl _) fun k hk => by cases hk⟩)
    clear h hc h4
    go_enter Try.func46, Try.ntmps46
    go_wp2_with (at_builtin; refine wpList_append_own _ rfl _ _ 27 rfl w.heap.size 37 i0 (.agg #[.int .i64 0, .int .i64 0]) 2 16 Try.underlying27 hi hz0 hz1 hz2 rfl (by decide) (.slice none 0 0) 0 [] rfl (World.ownsRow_nil _ _ _ _) ⟨b, o, none⟩ ps.length cap (svals ps) rfl WL.out NW.out W1.out m1 m2 (Nat.le_refl _) ?_; intro v1 w1 hown hgrow _)
    obtain ⟨o1, f1⟩ := FIN.out _ _ hown hgrow
    have O1 := hide o1
    have F1 := hide f1
    clear hown hgrow o1 f1
    go_ret
    exact ⟨_, rfl, O1.out, F1.out⟩

theorem begRow : (74 : TypeId) < Try.prog.types.size := of_decide_eq_true (by kernel_rfl)
theorem begWide : (match Try.prog.underlying 74 with | some (.array _ _) | some (.struct _) => true | _ => false) = true := by rw [Try.underlying74]
theorem begSize : ∃ n, Try.prog.types.size = n + 1 := ⟨Try.prog.types.size - 1, by have h : 0 < Try.prog.types.size := of_decide_eq_true (by kernel_rfl); omega⟩
theorem begKeyed : Try.prog.keyType 74 = true := by kernel_rfl
theorem begCells : Try.prog.cellsOf 74 = 1 := by kernel_rfl
theorem begInt : Try.prog.cellsOf 3 = 1 := by kernel_rfl
theorem begZero (w : World) : (zeroValue 3).run Try.prog w = .ok (.int .i64 0) w := by kernel_rfl
theorem begKey : IntKey Try.prog 74 := by
  obtain ⟨n, hn⟩ := begSize
  exact ⟨Keyed.of_law (deep_law_laid laidOut (m := 2) (by omega) begRow (by kernel_rfl) begWide),
    fun a h1 h2 => key_gen Try.underlying74 begKeyed begCells rfl rfl (by decide) Try.underlying3 begInt hn a (WalkArith.wf_i64 (by omega))⟩
theorem makeBeg_hint (n : Int) (w : World) : (Instr.makeMap 71 (some (.int .i64 n))).run Try.prog w = .ok (.map (some w.heap.size)) (w.alloc (.map #[] 0)) := by
  simp [Instr.makeMap, run_underlying Try.underlying71, asInt, asIntOf]

set_option maxRecDepth 100000 in
set_option maxHeartbeats 1000000 in
theorem mplaces_any (v : Value) (ps : List Pc) (w : World) (h : SpansAt w v ps) :
    Calls Try.prog 40 #[v] w fun e w' => e = .returned (.map (some w.heap.size)) ∧ w'.ownsMap Try.prog 74 (plainElem Try.prog 3) w.heap.size ps.length (Dm ps ps.length) ∧ Fresh w w' := by
  have H := hide h
  obtain ⟨a, cap, rfl, hl, hl2, hl3, h4, hn0, hc⟩ := h
  have l0 : (0 : Int) ≤ (ps.length : Int) := by omega
  have l1 : (ps.length : Int) ≤ 1048576 := by omega
  have I := hide (in64_nth h4)
  have hmm := makeBeg_hint (ps.length : Int)
  clear hl hl2 hl3 h4 hn0 hc
  have O0 := hide (World.ownsMap_made (H := Unit) w Try.prog 74 (plainElem Try.prog 3))
  have F0 := hide (show Fresh w (w.alloc (.map #[] 0)) from (Below.refl _ _).alloc (Nat.le_refl _) _)
  obtain ⟨B, hB⟩ : ∃ B, B = w.heap.size := ⟨_, rfl⟩
  have HB := hide hB
  rw [← hB] at O0
  clear hB
  go_enter Try.func40, Try.ntmps40
  go_wp2
  rw [← HB.out]
  go_loopw [11] (fun i wr => ∃ j : Nat, j ≤ ps.length ∧ i = .int .i64 (j : Int) ∧ wr.ownsMap Try.prog 74 (plainElem Try.prog 3) B j (Dm ps j) ∧ Fresh w wr) (fun i _ => (ps.length - intOf i).toNat)
  case atStart => exact ⟨0, Nat.zero_le _, rfl, O0.out, F0.out⟩
  case round =>
    obtain ⟨j, hj, rfl, ho, hf⟩ := hrel
    have O := hide ho
    have F := hide hf
    clear ho hf
    by_cases g : j < ps.length
    · have g' : (j : Int) < (ps.length : Int) := by omega
      obtain ⟨a', cap', e, _, _, _, _, _, hc⟩ := H.out.fresh F.out
      cases e
      obtain ⟨b, o, rfl, c0, c1⟩ := hc j g
      clear hc
      have hb : b < wr.heap.size := World.block_lt_of_cell? _ _ c0
      have HI := hide (I.out j)
      have DS := hide (show Dm ps (j + 1) = (Dm ps j).put (kl (nth ps j).1) (.lit (.int .i64 (j : Int))) from rfl)
      generalize nth ps j = p at *
      obtain ⟨p1, p2⟩ := p
      simp only at c0 c1 DS
      have HK := hide (begKey.of p1 HI.out.1 HI.out.2.1)
      have HV := hide (plainElem_int (H := Unit) Try.underlying3 (WalkArith.wf_i64 (n := (j : Int)) (by omega)))
      have OA := hide (O.out.alloc (.cells #[.int .i64 p1, .int .i64 p2] 37))
      go_wp2_with (first | (at_mapUpdate; refine wpList_mapUpdate_own _ rfl _ _ _ 71 rfl 74 3 begKey.law Try.underlying71 _ B j _ rfl OA.out (by unfold maxLen; omega) _ _ _ rfl rfl HK.out _ [] HV.out ?_; intro w1 hown1 hgrow1) | go_in)
      have O2 := hide (DS.out.symm ▸ hown1)
      have F2 := hide (show Fresh w w1 from (fresh_more F.out _ _).grown hgrow1 (fresh_more F.out _ _).size (fun i hi => by cases hi; rw [HB.out]; exact Nat.le_refl _))
      clear hown1 hgrow1
      go_wp2
      go_roundw
      case rel => exact ⟨j + 1, by omega, by go_num, O2.out, F2.out⟩
      case measure => simp [intOf]; omega
    · obtain rfl : j = ps.length := by omega
      go_wp2
      go_ret
      rw [← HB.out]
      exact ⟨rfl, O.out, F.out⟩
end Go.Proofs.Ytegolecdmpikhaa
/- slices.Grow of nil and slices.Concat of slices of marks, as contracts. -/
namespace Go.Proofs.Ytegolecdmpikhaa
open Go.RowKit

set_option maxRecDepth 100000 in
theorem mgrow_nil (n : Nat) (w : World) (hn : n ≤ 4194304) :
    Calls Try.prog 60 #[.slice none 0 0, .int .i64 (n : Int)] w fun e w' => ∃ u, e = .returned u ∧ OwnM w' w.heap.size u [] ∧ Fresh w w' := by
  obtain ⟨i0, hi, hz0, hz1, hz2⟩ := infoOf infoMark
  have n0 : (0 : Int) ≤ (n : Int) := by omega
  have n1 : (n : Int) ≤ 4194304 := by omega
  rcases Nat.eq_zero_or_pos n with rfl | hp
  · go_enter Try.func60, Try.ntmps60
    go_wp2
    go_ret
    exact ⟨_, rfl, OwnM.nil _ _, Fresh.refl _⟩
  · have happ := Lib.run_append_nil_zeros (P := Try.prog) w 27 3 27 37 i0 (.agg #[.int .i64 0, .int .i64 0]) .i64 .i64 Try.underlying27 Try.underlying3 hi hz0 n hp (by omega) (by omega) (by rw [hz2]; omega)
    have hcl : grownCap w n 0 37 ≤ maxLen := grownCap_le_maxLen w _ 0 37 (by unfold maxLen; omega)
    have hcg : n ≤ grownCap w n 0 37 := grownCap_ge w _ 0 37
    generalize grownCap w n 0 37 = cap at *
    generalize hZ : (Builtin.zeroCells (Value.agg #[.int .i64 0, .int .i64 0]).cells n ++ Builtin.zeroCells (Value.agg #[.int .i64 0, .int .i64 0]).cells (cap - n)) = Z at happ
    have hZs : Z.size = cap * 2 := by rw [← hZ]; simp [size_zeroCells, Value.cells]; omega
    have FIN := hide (show OwnM (w.drew.alloc (.cells Z 37)) w.heap.size (.slice (some ⟨w.heap.size, 0, none⟩) 0 cap) [] from
      ⟨rfl, .inr ⟨w.heap.size, cap, Z, rfl, Nat.le_refl _, heap_alloc_new w.drew _, Nat.zero_le _, hcl, hZs, by simp [svals]⟩⟩)
    have FF := hide (show Fresh w (w.drew.alloc (.cells Z 37)) from fresh_more (Fresh.refl w).drew _ _)
    have p1 : (1 : Int) ≤ (n : Int) := by omega
    have c0 : (0 : Int) ≤ (cap : Int) := by omega
    clear hZ hZs hcl hcg
    go_enter Try.func60, Try.ntmps60
    go_wp2_with (at_builtin; refine Lib.wpList_append_run _ rfl _ _ _ _ rfl _ _ rfl rfl _ _ happ ?_)
    go_ret
    exact ⟨_, rfl, FIN.out, FF.out⟩

theorem ownM_joined {w' : World} {base : Nat} {v' : Value} {ps qs : List Pc} (hown : w'.ownsRow base 37 2 v' (ps.length + qs.length) (svals ps ++ svals qs)) : OwnM w' base v' (ps ++ qs) := by
  unfold OwnM
  rw [svals_append, List.length_append]
  exact hown

set_option maxRecDepth 100000 in
set_option maxHeartbeats 1000000 in
theorem mconcat_any (b o k c : Nat) (V : Nat → Value) (f : Nat → List Pc) (w : World) (hk : k ≤ 3) (h : PartsAt w b o k V f) :
    Calls Try.prog 41 #[.slice (some ⟨b, o, none⟩) k c] w fun e w' => ∃ u, e = .returned u ∧ OwnM w' w.heap.size u (flat f k) ∧ Fresh w w' := by
  obtain ⟨i0, hi, hz0, hz1, hz2⟩ := infoOf infoMark
  have P := hide h
  have k0 : (0 : Int) ≤ (k : Int) := by omega
  have k1 : (k : Int) ≤ 3 := by omega
  have FL := hide (show ∀ j, j ≤ k → (flat f j).length ≤ 3145728 from by
    intro j hj
    have : ∀ j, j ≤ k → (flat f j).length ≤ j * 1048576 := by
      intro j
      induction j with
      | zero => intro _; simp [flat]
      | succ j ih =>
        intro hj
        have h1 := ih (by omega)
        obtain ⟨⟨_, _, _, h2, _⟩, _⟩ := (h j (by omega)).2
        simp [flat]; omega
    have := this j hj
    omega)
  have HK := hide hk
  clear h hk
  go_enter Try.func41, Try.ntmps41
  go_wp2
  go_loop [3, 11] (fun sz i => ∃ j : Nat, j ≤ k ∧ i = .int .i64 (j : Int) ∧ sz = .int .i64 ((flat f j).length : Nat)) (fun _ i => (k - intOf i).toNat)
  case atStart => exact ⟨0, Nat.zero_le _, rfl, rfl⟩
  case round =>
    obtain ⟨j, hj, rfl, rfl⟩ := hrel
    have s1 : (((flat f j).length : Nat) : Int) ≤ 3145728 := by have := FL.out j hj; omega
    have s0 : (0 : Int) ≤ (((flat f j).length : Nat) : Int) := by omega
    by_cases g : j < k
    · have g' : (j : Int) < (k : Int) := by omega
      obtain ⟨c0, ⟨a, cap, e, h1, _⟩, _⟩ := P.out j g
      rw [e] at c0
      have t1 : (((f j).length : Nat) : Int) ≤ 1048576 := by omega
      have t0 : (0 : Int) ≤ (((f j).length : Nat) : Int) := by omega
      have E := hide (show (((flat f (j + 1)).length : Nat) : Int) = (((flat f j).length : Nat) : Int) + (((f j).length : Nat) : Int) by simp [flat])
      clear e h1
      generalize (((flat f j).length : Nat) : Int) = x at *
      go_wp2
      go_round
      case rel => exact ⟨j + 1, by omega, by go_num, by rw [E.out]⟩
      case measure => simp [intOf]; omega
    · obtain rfl : j = k := by omega
      have L := hide (FL.out j hj)
      generalize (flat f j).length = N at *
      go_wp2_with fail
      refine (mgrow_nil N w (by have := L.out; omega)).mono ?_
      rintro e w1 ⟨u, rfl, o1, f1⟩
      have O1 := hide o1
      have F1 := hide f1
      clear o1 f1 s0 s1 L
      go_wp2
      go_loopw [6, 27] (fun out i wr => ∃ t : Nat, t ≤ j ∧ i = .int .i64 (t : Int) ∧ OwnM wr w.heap.size out (flat f t) ∧ Fresh w wr) (fun _ i _ => (j - intOf i).toNat)
      case atStart => exact ⟨0, Nat.zero_le _, rfl, O1.out, F1.out⟩
      case round =>
        obtain ⟨t, ht, rfl, ho, hf⟩ := hrel
        have O := hide ho
        have F := hide hf
        clear ho hf
        by_cases g2 : t < j
        · have g2' : (t : Int) < (j : Int) := by omega
          obtain ⟨c0, hv⟩ := (P.out.fresh F.out) t g2
          have LT := hide (FL.out t ht)
          have LU := hide (FL.out (t + 1) (by omega))
          have HV := hide hv
          rcases hv.cases with ⟨e, ef⟩ | ⟨x, y, cap, e, _, _, _, _, _⟩
          · rw [e] at c0
            have E := hide (show flat f (t + 1) = flat f t by simp [flat, ef])
            clear hv e ef
            go_wp2_with (at_builtin; refine wpList_append_own_none rfl _ _ 27 rfl w.heap.size 37 i0 2 Try.underlying27 hi _ _ _ rfl O.out rfl ?_)
            go_roundw
            case rel => exact ⟨t + 1, by omega, by go_num, by rw [E.out]; exact O.out, F.out⟩
            case measure => simp [intOf]; omega
          · rw [e] at c0 HV
            have NW := hide HV.out.news
            have WL := hide (svals_length (f t))
            have W1 := hide (svals_one (f t))
            have m1 : (flat f t).length + (f t).length ≤ maxLen := by have := LU.out; unfold maxLen; simp [flat] at this; omega
            have m2 : ((flat f t).length + (f t).length) * 16 ≤ 140737488355328 := by have := LU.out; simp [flat] at this; omega
            have m3 : w.heap.size ≤ wr.heap.size := F.out.size
            clear hv e
            go_wp2_with (at_builtin; refine wpList_append_own _ rfl _ _ 27 rfl w.heap.size 37 i0 (.agg #[.int .i64 0, .int .i64 0]) 2 16 Try.underlying27 hi hz0 hz1 hz2 rfl (by decide) _ _ _ rfl O.out ⟨x, y, none⟩ (f t).length cap (svals (f t)) rfl WL.out NW.out W1.out m1 m2 m3 ?_; intro v1 w1 hown hgrow _)
            have O2 := hide (show OwnM w1 w.heap.size v1 (flat f (t + 1)) from ownM_joined hown)
            have F2 := hide (show Fresh w w1 from F.out.grown hgrow F.out.size fun i hi => O.out.block i hi)
            clear hown hgrow
            go_roundw
            case rel => exact ⟨t + 1, by omega, by go_num, O2.out, F2.out⟩
            case measure => simp [intOf]; omega
        · obtain rfl : t = j := by omega
          go_wp2
          go_ret
          exact ⟨_, rfl, O.out, F.out⟩
end Go.Proofs.Ytegolecdmpikhaa
/- What the program's side.Put and Take answer, as contracts. -/
namespace Go.Proofs.Ytegolecdmpikhaa
open Go.RowKit Go.Maps

theorem rise_inj {ps : List Pc} (h : Rise ps) : ∀ i j, i < ps.length → j < ps.length → (nth ps i).1 = (nth ps j).1 → i = j := by
  intro i j hi hj e
  rcases Nat.lt_trichotomy i j with g | g | g
  · have := rise_nth h g hj; omega
  · exact g
  · have := rise_nth h g hi; omega
/-- where a mark is, if it is there -/
theorem hit_place {ps : List Pc} {x : Int} (h : hitM ps x = true) : ∃ i, i < ps.length ∧ (nth ps i).1 = x ∧ aheadN ps x = i ∧ nxM ps x = i + 1 ∧ clsM ps x = (nth ps i).2 := by
  obtain ⟨h1, h2⟩ := hit_iff.1 h
  exact ⟨_, h1, h2, rfl, by unfold nxM; rw [h]; rfl, by unfold clsM; rw [h]; rfl⟩
theorem hit_not {ps : List Pc} (hr : Rise ps) {x : Int} (h : hitM ps x = false) : (∀ t, t < ps.length → (nth ps t).1 ≠ x) ∧ nxM ps x = aheadN ps x ∧ clsM ps x = 0 := by
  have e : nxM ps x = aheadN ps x := by unfold nxM; rw [h]; rfl
  refine ⟨fun t ht e1 => ?_, e, by unfold clsM; rw [h]; rfl⟩
  rcases Nat.lt_or_ge t (aheadN ps x) with g | g
  · have := ahead_lt ps x t g; omega
  · have := nx_lt hr (x := x) (i := t) (by omega) ht; omega
/-- what the map tells, where it is there and where it is not -/
theorem look_hit {w : World} {B : Nat} {ps : List Pc} (h : w.ownsMap Try.prog 74 (plainElem Try.prog 3) B ps.length (Dm ps ps.length)) (hin : ∀ p ∈ ps, In64 p) (hr : Rise ps) {i : Nat} (hi : i < ps.length) {x : Int} (hx : (nth ps i).1 = x) :
    (Instr.lookup 71 (.map (some B)) (.agg #[.int .i64 x]) true).run Try.prog w = .ok (.tuple #[.int .i64 (i : Int), .bool true]) w := by
  have hb := in64_nth hin i
  unfold In64 at hb
  rw [hx] at hb
  obtain ⟨c, hc, hrun⟩ := look_int begKey.law Try.underlying71 Try.underlying3 (begZero w) h (begKey.of x hb.1 hb.2.1)
  obtain ⟨d1, d2⟩ := Dm_some begKey ps hin (rise_inj hr) i hi ps.length hi (Nat.le_refl _)
  rw [hx] at d1 d2
  rw [d2] at hc
  have : (i : Int) = c := by simpa using hc
  rw [hrun, d1, this]
theorem look_miss {w : World} {B : Nat} {ps : List Pc} (h : w.ownsMap Try.prog 74 (plainElem Try.prog 3) B ps.length (Dm ps ps.length)) (hin : ∀ p ∈ ps, In64 p) {x : Int} (h1 : -9223372036854775808 ≤ x) (h2 : x ≤ 9223372036854775807) (hx : ∀ t, t < ps.length → (nth ps t).1 ≠ x) :
    ∃ c : Int, (Instr.lookup 71 (.map (some B)) (.agg #[.int .i64 x]) true).run Try.prog w = .ok (.tuple #[.int .i64 c, .bool false]) w := by
  obtain ⟨c, hc, hrun⟩ := look_int begKey.law Try.underlying71 Try.underlying3 (begZero w) h (begKey.of x h1 h2)
  rw [Dm_none begKey ps hin x h1 h2 ps.length hx] at hrun
  exact ⟨c, hrun⟩
theorem wpList_lookup_run {P : Program} (w : World) {ops : Array Oper} {rest : List Oper} {o : Oper} {a : Act} {Q : Exit → Act → World → Prop} (hg : o.guard = none) (m x : Operand) (t : TypeId) (hop : o.op = Op.lookup t m x true) (mv key v : Value) (hm : a.eval m = mv) (hx : a.eval x = key)
    (hrun : (Instr.lookup t mv key true).run P w = .ok v w) (h : wpList P ops Q rest (a.put o.dst v) w) : wpList P ops Q (o :: rest) a w :=
  wpList_plain hg fun _ hK' => wp_lookup_run m x t hop mv key v hm hx hrun (hK' _ _ h)

/-- a new block with one pair in it -/
theorem alloc_one {w : World} {t : TypeId} {s1 s2 : Int} {p : World → Prop} (hin : In64 (s1, s2)) (h : ∀ w4, SpansIn w4 (.slice (some ⟨w.heap.size, 0, none⟩) 1 1) [(s1, s2)] → Fresh w w4 → p w4) : p (w.alloc (.cells #[.int .i64 s1, .int .i64 s2] t)) :=
  h _ (pairIn_one w t s1 s2 hin) (fresh_box _ _ _)

set_option maxRecDepth 100000 in
set_option maxHeartbeats 1000000 in
theorem mtake_any (v : Value) (ps : List Pc) (x : Int) (w : World) (h : SpansIn w v ps) (hr : Rise ps) (hl : ps.length ≤ 1000000) (x1 : -9223372036854775808 ≤ x) (x2 : x ≤ 9223372036854775807) :
    Calls Try.prog 29 #[v, .int .i64 x] w fun e w' => ∃ u, e = .returned (.tuple #[u, .int .i64 (clsM ps x), .bool (hitM ps x)]) ∧ OwnM w' w.heap.size u (takM ps x) ∧ Fresh w w' := by
  have HH := hide h
  have HI := hide h.1.in64
  cases hx : hitM ps x with
  | true =>
    obtain ⟨i, hi, hxi, ha, hnx, hcl⟩ := hit_place hx
    have LK := hide (fun w B ho => look_hit (w := w) (B := B) ho HI.out hr hi hxi)
    have CL := hide hcl
    have TL := hide (show takM ps x = ps.take i ++ ps.drop (i + 1) by unfold takM; rw [ha, hnx])
    rcases h.cases with ⟨_, rfl⟩ | ⟨b, o, cap, rfl, h1, h2, h3, h4, hc⟩
    · simp at hi
    · obtain ⟨c0, c1⟩ := hc i hi
      have PT0 := hide (HH.out.take (k := i) (Nat.le_of_lt hi))
      have PT1 := hide (HH.out.dropIf (k := i + 1) hi)
      obtain ⟨A, hA⟩ : ∃ A, (if cap = i + 1 then some (⟨b, o, none⟩ : Addr) else some ⟨b, o + (i + 1) * 2, none⟩) = A := ⟨_, rfl⟩
      rw [hA] at PT1
      generalize nth ps i = p at *
      obtain ⟨p1, p2⟩ := p
      simp only at c0 c1 CL
      have C0 := hide (show PairC w b (o + i * 2) p1 p2 w from ⟨c0, c1, Fresh.refl _⟩)
      have i1 : (0 : Int) ≤ (i : Int) := by omega
      have i2 : (i : Int) < (ps.length : Int) := by omega
      have i3 : (ps.length : Int) ≤ (cap : Int) := by omega
      have i4 : (cap : Int) ≤ 9223372036854775807 := by omega
      have i5 : (ps.length : Int) ≤ 1000000 := by omega
      have i6 : i ≤ cap := by omega
      have i7 : i + 1 ≤ ps.length := by omega
      have i9 : (0 : Int) ≤ (i : Int) + 1 := by omega
      have i10 : (i : Int) + 1 ≤ (ps.length : Int) := by omega
      have i8 : IntKind.i64.wrap ((i : Int) + 1) = ((i + 1 : Nat) : Int) := wrap_next (by omega)
      clear hc c0 c1 h1 h2 h3 h4 hxi hx hcl h hr ha hnx
      go_enter Try.func29, Try.ntmps29
      go_wp2_with fail
      refine (mplaces_any _ ps w HH.out.1).mono ?_
      rintro e w1 ⟨rfl, o1, f1⟩
      have L1 := hide (LK.out _ _ o1)
      have F1 := hide f1
      clear o1 f1
      go_wp2_with (first | (at_lookup; refine wpList_lookup_run _ rfl _ _ 71 rfl _ _ _ rfl rfl L1.out ?_) | fail)
      have HS : Hid (PairC w b (o + i * 2) p1 p2 w1.drew) := C0.out.fresh F1.out.drew
      refine wp_region_held (S := PairC w b (o + i * 2) p1 p2) (by kernel_rfl) ?_
      change wpAnyH _ _ _ _ _ _ _ _ (World.drew _)
      generalize World.drew w1 = wd at HS ⊢
      clear F1 L1
      refine held_take (i := 0) (d := 21) (v := ?_) rfl rfl (by kernel_rfl) (by kernel_rfl) (by kernel_rfl) (fun _ _ _ h => h) (by kernel_rfl) ?_ HS.out ?_
      rotate_left
      · intro wz hz
        obtain ⟨z0, z1, -⟩ := hz
        go_simp
        first | done | with_reducible rfl
      refine held_take (i := 1) (d := 22) (v := ?_) rfl rfl (by kernel_rfl) (by kernel_rfl) (by kernel_rfl) (fun _ _ _ h => h) (by kernel_rfl) ?_ HS.out ?_
      rotate_left
      · intro wz hz
        obtain ⟨z0, z1, -⟩ := hz
        go_simp
        first | done | with_reducible rfl
      refine held_take (i := 2) (d := 23) (v := ?_) rfl rfl (by kernel_rfl) (by kernel_rfl) (by kernel_rfl) (fun _ _ _ h => h) (by kernel_rfl) ?_ HS.out ?_
      rotate_left
      · intro wz hz
        obtain ⟨z0, z1, -⟩ := hz
        go_simp
        first | done | with_reducible rfl
      refine held_take (i := 3) (d := 24) (v := ?_) rfl rfl (by kernel_rfl) (by kernel_rfl) (by kernel_rfl) (fun _ _ _ h => h) (by kernel_rfl) ?_ HS.out ?_
      rotate_left
      · intro wz hz
        obtain ⟨z0, z1, -⟩ := hz
        go_simp
        first | done | with_reducible rfl
      refine held_take (i := 4) (d := 25) (v := ?_) rfl rfl (by kernel_rfl) (by kernel_rfl) (by kernel_rfl) (fun _ _ _ h => h) (by kernel_rfl) ?_ HS.out ?_
      rotate_left
      · intro wz hz
        obtain ⟨z0, z1, -⟩ := hz
        go_simp
        first | done | with_reducible rfl
      refine held_take (i := 5) (d := 26) (v := ?_) rfl rfl (by kernel_rfl) (by kernel_rfl) (by kernel_rfl) (fun _ _ _ h => h) (by kernel_rfl) ?_ HS.out ?_
      rotate_left
      · intro wz hz
        obtain ⟨z0, z1, -⟩ := hz
        go_simp
        first | done | with_reducible rfl
      refine held_take (i := 6) (d := 27) (v := ?_) rfl rfl (by kernel_rfl) (by kernel_rfl) (by kernel_rfl) (fun _ _ _ h => h) (by kernel_rfl) ?_ HS.out ?_
      rotate_left
      · intro wz hz
        obtain ⟨z0, z1, -⟩ := hz
        go_simp
        first | done | with_reducible rfl
      refine held_take (i := 9) (d := 30) (v := ?_) rfl rfl (by kernel_rfl) (by kernel_rfl) (by kernel_rfl) (fun _ _ _ h => h) (by kernel_rfl) ?_ HS.out ?_
      rotate_left
      · intro wz hz
        obtain ⟨z0, z1, -⟩ := hz
        go_simp
        first | done | with_reducible rfl
      refine held_take (i := 10) (d := 31) (v := ?_) rfl rfl (by kernel_rfl) (by kernel_rfl) (by kernel_rfl) (fun _ _ _ h => h) (by kernel_rfl) ?_ HS.out ?_
      rotate_left
      · intro wz hz
        obtain ⟨z0, z1, -⟩ := hz
        go_simp
        first | done | with_reducible rfl
      refine held_take (i := 11) (d := 32) (v := ?_) rfl rfl (by kernel_rfl) (by kernel_rfl) (by kernel_rfl) (fun _ _ _ h => h) (by kernel_rfl) ?_ HS.out ?_
      rotate_left
      · intro wz hz
        obtain ⟨z0, z1, -⟩ := hz
        go_simp
        first | done | with_reducible rfl
      refine held_take (i := 12) (d := 33) (v := ?_) rfl rfl (by kernel_rfl) (by kernel_rfl) (by kernel_rfl) (fun _ _ _ h => h) (by kernel_rfl) ?_ HS.out ?_
      rotate_left
      · intro wz hz
        obtain ⟨z0, z1, -⟩ := hz
        go_simp
        first | done | with_reducible rfl
      refine held_take (i := 13) (d := 34) (v := ?_) rfl rfl (by kernel_rfl) (by kernel_rfl) (by kernel_rfl) (fun _ _ _ h => h) (by kernel_rfl) ?_ HS.out ?_
      rotate_left
      · intro wz hz
        obtain ⟨z0, z1, -⟩ := hz
        go_simp
        first | done | with_reducible rfl
      refine wpAnyH_ready (rs := [7]) (by kernel_rfl) (by simp) ?_
      refine AllReadyH.cons rfl (fun K hK => ?_) AllReadyH.nil
      go_simp
      refine parts_next _ _ _ ?_; intro w5 hb5 k5; have PA := hide (parts2 hb5 (PT0.out.fresh (HS.out.2.2.trans k5)) (PT1.out.fresh (HS.out.2.2.trans k5))); have HS' := hide (HS.out.fresh k5); clear HS k5 hb5; have HS := HS'; clear HS'
      refine hK.out _ _ HS.out (fun _ => ?_)
      clear hK K
      refine wpAnyH_ready (rs := [8]) (by kernel_rfl) (by simp) ?_
      refine AllReadyH.cons rfl (fun K hK => ?_) AllReadyH.nil
      go_simp
      go_wp2_with fail
      refine (mconcat_any _ 0 2 2 _ _ w5 (by decide) PA.out).mono ?_; rintro e w6 ⟨u, rfl, o6, f6⟩; have O6 := hide (o6.mono HS.out.2.2.size); have HS' := hide (HS.out.fresh f6); clear HS o6 f6; have HS := HS'; clear HS'
      refine hK.out _ _ HS.out (fun _ => ?_)
      clear hK K
      refine held_take (i := 14) (d := 4) (v := ?_) rfl rfl (by kernel_rfl) (by kernel_rfl) (by kernel_rfl) (fun _ _ _ h => h) (by kernel_rfl) ?_ HS.out ?_
      rotate_left
      · intro wz hz
        obtain ⟨z0, z1, -⟩ := hz
        go_simp
        first | done | with_reducible rfl
      refine held_take (i := 15) (d := 5) (v := ?_) rfl rfl (by kernel_rfl) (by kernel_rfl) (by kernel_rfl) (fun _ _ _ h => h) (by kernel_rfl) ?_ HS.out ?_
      rotate_left
      · intro wz hz
        obtain ⟨z0, z1, -⟩ := hz
        go_simp
        first | done | with_reducible rfl
      refine held_take (i := 16) (d := 6) (v := ?_) rfl rfl (by kernel_rfl) (by kernel_rfl) (by kernel_rfl) (fun _ _ _ h => h) (by kernel_rfl) ?_ HS.out ?_
      rotate_left
      · intro wz hz
        obtain ⟨z0, z1, -⟩ := hz
        go_simp
        first | done | with_reducible rfl
      refine wpAnyH_done (by kernel_rfl) ?_ _
      try simp only [Act.put, List.setIfInBounds_toArray, List.set_cons_succ, List.set_cons_zero]
      go_wp2
      go_ret3
      exact ⟨u, by rw [CL.out]; rfl, by rw [TL.out, ← flat2]; exact O6.out, HS.out.2.2⟩
  | false =>
    obtain ⟨hno, hnx, hcl⟩ := hit_not hr hx
    have LK := hide (fun w B ho => look_miss (w := w) (B := B) ho HI.out x1 x2 hno)
    have CL := hide hcl
    have TL := hide (show takM ps x = ps by unfold takM; rw [hnx]; exact List.take_append_drop _ _)
    clear hno hcl h hr hx hnx
    go_enter Try.func29, Try.ntmps29
    go_wp2_with fail
    refine (mplaces_any _ ps w HH.out.1).mono ?_
    rintro e w1 ⟨rfl, o1, f1⟩
    obtain ⟨c, l1⟩ := LK.out _ _ o1
    have L1 := hide l1
    have F1 := hide f1
    clear o1 f1 l1
    go_wp2_with (first | (at_lookup; refine wpList_lookup_run _ rfl _ _ 71 rfl _ _ _ rfl rfl L1.out ?_) | fail)
    refine (mcopied_any v ps w1 (HH.out.fresh F1.out)).mono ?_
    rintro e w2 ⟨u, rfl, o2, f2⟩
    have O2 := hide (o2.mono F1.out.size)
    have F2 := hide (F1.out.trans f2)
    clear o2 f2
    go_wp2
    go_ret3
    exact ⟨u, by rw [CL.out]; rfl, by rw [TL.out]; exact O2.out, F2.out⟩

set_option maxRecDepth 100000 in
set_option maxHeartbeats 1000000 in
theorem mput_any (v : Value) (ps : List Pc) (s1 s2 : Int) (w : World) (h : SpansIn w v ps) (hr : Rise ps) (hl : ps.length ≤ 1000000) (hin : In64 (s1, s2)) :
    Calls Try.prog 24 #[v, .agg #[.int .i64 s1, .int .i64 s2]] w fun e w' => ∃ u, e = .returned u ∧ OwnM w' w.heap.size u (putM ps (s1, s2)) ∧ Fresh w w' := by
  obtain ⟨n, hn⟩ : ∃ n, n = w.heap.size := ⟨_, rfl⟩
  obtain ⟨W1, hW1⟩ : ∃ W1, W1 = w.alloc (.cells #[.int .i64 s1, .int .i64 s2] 37) := ⟨_, rfl⟩
  have FW := hide (show Fresh w W1 by subst hW1; exact fresh_box _ _ _)
  have BB : W1.heap[n]? = some (.cells #[.int .i64 s1, .int .i64 s2] 37 (0, 0)) := by subst hW1; rw [hn]; exact heap_alloc_new w _
  have H0 := hide (show PairB W1 n s1 s2 W1 from ⟨cell_block BB 0 _ rfl, cell_block BB 1 _ rfl, Fresh.refl _⟩)
  have H1 := hide (h.fresh FW.out)
  have HN := hide hn
  have HW := hide hW1
  have HI := hide h.1.in64
  clear BB hn hW1
  cases hx : hitM ps s1 with
  | true =>
    obtain ⟨i, hi, hxi, ha, hnx, _⟩ := hit_place hx
    have LK := hide (fun w B ho => look_hit (w := w) (B := B) ho HI.out hr hi hxi)
    have PL := hide (show putM ps (s1, s2) = ps.take i ++ [(s1, s2)] ++ ps.drop (i + 1) by unfold putM; simp only [ha, hnx]; simp)
    rcases H1.out.cases with ⟨_, rfl⟩ | ⟨b, o, cap, rfl, h1, h2, h3, h4, hc⟩
    · simp at hi
    · have PT0 := hide (H1.out.take (k := i) (Nat.le_of_lt hi))
      have PT2 := hide (H1.out.dropIf (k := i + 1) hi)
      obtain ⟨A, hA⟩ : ∃ A, (if cap = i + 1 then some (⟨b, o, none⟩ : Addr) else some ⟨b, o + (i + 1) * 2, none⟩) = A := ⟨_, rfl⟩
      rw [hA] at PT2
      have i1 : (0 : Int) ≤ (i : Int) := by omega
      have i2 : (i : Int) < (ps.length : Int) := by omega
      have i3 : (ps.length : Int) ≤ (cap : Int) := by omega
      have i4 : (cap : Int) ≤ 9223372036854775807 := by omega
      have i5 : (ps.length : Int) ≤ 1000000 := by omega
      have i6 : i ≤ cap := by omega
      have i7 : i + 1 ≤ ps.length := by omega
      have i9 : (0 : Int) ≤ (i : Int) + 1 := by omega
      have i10 : (i : Int) + 1 ≤ (ps.length : Int) := by omega
      have i8 : IntKind.i64.wrap ((i : Int) + 1) = ((i + 1 : Nat) : Int) := wrap_next (by omega)
      clear hc h1 h2 h3 h4 hxi hx h hr ha hnx
      go_enter Try.func24, Try.ntmps24
      go_wp2_with fail
      rw [← HW.out, ← HN.out]
      have HS : Hid (PairB W1 n s1 s2 W1.drew) := H0.out.fresh (Fresh.refl _).drew
      refine wp_region_held (S := PairB W1 n s1 s2) (by kernel_rfl) ?_
      change wpAnyH _ _ _ _ _ _ _ _ (World.drew _)
      refine held_take (i := 0) (d := 9) (v := ?_) rfl rfl (by kernel_rfl) (by kernel_rfl) (by kernel_rfl) (fun _ _ _ h => h) (by kernel_rfl) ?_ HS.out ?_
      rotate_left
      · intro wz hz
        obtain ⟨z0, z1, -⟩ := hz
        go_simp
        first | done | with_reducible rfl
      refine held_take (i := 2) (d := 11) (v := ?_) rfl rfl (by kernel_rfl) (by kernel_rfl) (by kernel_rfl) (fun _ _ _ h => h) (by kernel_rfl) ?_ HS.out ?_
      rotate_left
      · intro wz hz
        obtain ⟨z0, z1, -⟩ := hz
        go_simp
        first | done | with_reducible rfl
      refine held_take (i := 3) (d := 12) (v := ?_) rfl rfl (by kernel_rfl) (by kernel_rfl) (by kernel_rfl) (fun _ _ _ h => h) (by kernel_rfl) ?_ HS.out ?_
      rotate_left
      · intro wz hz
        obtain ⟨z0, z1, -⟩ := hz
        go_simp
        first | done | with_reducible rfl
      refine held_take (i := 4) (d := 13) (v := ?_) rfl rfl (by kernel_rfl) (by kernel_rfl) (by kernel_rfl) (fun _ _ _ h => h) (by kernel_rfl) ?_ HS.out ?_
      rotate_left
      · intro wz hz
        obtain ⟨z0, z1, -⟩ := hz
        go_simp
        first | done | with_reducible rfl
      refine wpAnyH_ready (rs := [1]) (by kernel_rfl) (by simp) ?_
      refine AllReadyH.cons rfl (fun K hK => ?_) AllReadyH.nil
      go_simp
      go_wp2_with fail
      refine (mplaces_any _ ps _ (H1.out.fresh HS.out.2.2).1).mono ?_; rintro e w1 ⟨rfl, o1, f1⟩; have L1 := hide (LK.out _ _ o1); have HS' := hide (HS.out.fresh f1); clear HS o1 f1; have HS := HS'; clear HS'
      refine hK.out _ _ HS.out (fun _ => ?_)
      clear hK K
      refine wpAnyH_ready (rs := [5]) (by kernel_rfl) (by simp) ?_
      refine AllReadyH.cons rfl (fun K hK => ?_) AllReadyH.nil
      rw [if_pos (by rfl)]
      refine wp_lookup_run _ _ 71 rfl _ _ _ rfl rfl L1.out ?_
      refine hK.out _ _ HS.out (fun _ => ?_)
      clear hK K
      simp only [List.getElem_toArray, List.getElem_cons_succ, List.getElem_cons_zero, Act.put, List.setIfInBounds_toArray, List.set_cons_succ, List.set_cons_zero]
      refine held_take (i := 6) (d := 8) (v := ?_) rfl rfl (by kernel_rfl) (by kernel_rfl) (by kernel_rfl) (fun _ _ _ h => h) (by kernel_rfl) ?_ HS.out ?_
      rotate_left
      · intro wz hz
        obtain ⟨z0, z1, -⟩ := hz
        go_simp
        first | done | with_reducible rfl
      refine held_take (i := 7) (d := 15) (v := ?_) rfl rfl (by kernel_rfl) (by kernel_rfl) (by kernel_rfl) (fun _ _ _ h => h) (by kernel_rfl) ?_ HS.out ?_
      rotate_left
      · intro wz hz
        obtain ⟨z0, z1, -⟩ := hz
        go_simp
        first | done | with_reducible rfl
      refine held_take (i := 8) (d := 16) (v := ?_) rfl rfl (by kernel_rfl) (by kernel_rfl) (by kernel_rfl) (fun _ _ _ h => h) (by kernel_rfl) ?_ HS.out ?_
      rotate_left
      · intro wz hz
        obtain ⟨z0, z1, -⟩ := hz
        go_simp
        first | done | with_reducible rfl
      refine held_take (i := 9) (d := 5) (v := ?_) rfl rfl (by kernel_rfl) (by kernel_rfl) (by kernel_rfl) (fun _ _ _ h => h) (by kernel_rfl) ?_ HS.out ?_
      rotate_left
      · intro wz hz
        obtain ⟨z0, z1, -⟩ := hz
        go_simp
        first | done | with_reducible rfl
      refine held_take (i := 10) (d := 6) (v := ?_) rfl rfl (by kernel_rfl) (by kernel_rfl) (by kernel_rfl) (fun _ _ _ h => h) (by kernel_rfl) ?_ HS.out ?_
      rotate_left
      · intro wz hz
        obtain ⟨z0, z1, -⟩ := hz
        go_simp
        first | done | with_reducible rfl
      refine wpAnyH_done (by kernel_rfl) ?_ _
      try simp only [Act.put, List.setIfInBounds_toArray, List.set_cons_succ, List.set_cons_zero]
      go_wp2_with fail
      have HS' := hide (HS.out.fresh (Fresh.refl _).drew)
      clear HS
      have HS := HS'
      clear HS'
      refine wp_region_held (S := PairB W1 n s1 s2) (by kernel_rfl) ?_
      change wpAnyH _ _ _ _ _ _ _ _ (World.drew _)
      generalize World.drew w1 = wd at HS ⊢
      refine held_take (i := 0) (d := 18) (v := ?_) rfl rfl (by kernel_rfl) (by kernel_rfl) (by kernel_rfl) (fun _ _ _ h => h) (by kernel_rfl) ?_ HS.out ?_
      rotate_left
      · intro wz hz
        obtain ⟨z0, z1, -⟩ := hz
        go_simp
        first | done | with_reducible rfl
      refine held_take (i := 1) (d := 19) (v := ?_) rfl rfl (by kernel_rfl) (by kernel_rfl) (by kernel_rfl) (fun _ _ _ h => h) (by kernel_rfl) ?_ HS.out ?_
      rotate_left
      · intro wz hz
        obtain ⟨z0, z1, -⟩ := hz
        go_simp
        first | done | with_reducible rfl
      refine held_take (i := 2) (d := 20) (v := ?_) rfl rfl (by kernel_rfl) (by kernel_rfl) (by kernel_rfl) (fun _ _ _ h => h) (by kernel_rfl) ?_ HS.out ?_
      rotate_left
      · intro wz hz
        obtain ⟨z0, z1, -⟩ := hz
        go_simp
        first | done | with_reducible rfl
      refine held_take (i := 3) (d := 21) (v := ?_) rfl rfl (by kernel_rfl) (by kernel_rfl) (by kernel_rfl) (fun _ _ _ h => h) (by kernel_rfl) ?_ HS.out ?_
      rotate_left
      · intro wz hz
        obtain ⟨z0, z1, -⟩ := hz
        go_simp
        first | done | with_reducible rfl
      refine held_take (i := 5) (d := 23) (v := ?_) rfl rfl (by kernel_rfl) (by kernel_rfl) (by kernel_rfl) (fun _ _ _ h => h) (by kernel_rfl) ?_ HS.out ?_
      rotate_left
      · intro wz hz
        obtain ⟨z0, z1, -⟩ := hz
        go_simp
        first | done | with_reducible rfl
      refine held_take (i := 6) (d := 24) (v := ?_) rfl rfl (by kernel_rfl) (by kernel_rfl) (by kernel_rfl) (fun _ _ _ h => h) (by kernel_rfl) ?_ HS.out ?_
      rotate_left
      · intro wz hz
        obtain ⟨z0, z1, -⟩ := hz
        go_simp
        first | done | with_reducible rfl
      refine held_take (i := 7) (d := 25) (v := ?_) rfl rfl (by kernel_rfl) (by kernel_rfl) (by kernel_rfl) (fun _ _ _ h => h) (by kernel_rfl) ?_ HS.out ?_
      rotate_left
      · intro wz hz
        obtain ⟨z0, z1, -⟩ := hz
        go_simp
        first | done | with_reducible rfl
      refine held_take (i := 8) (d := 26) (v := ?_) rfl rfl (by kernel_rfl) (by kernel_rfl) (by kernel_rfl) (fun _ _ _ h => h) (by kernel_rfl) ?_ HS.out ?_
      rotate_left
      · intro wz hz
        obtain ⟨z0, z1, -⟩ := hz
        go_simp
        first | done | with_reducible rfl
      refine wpAnyH_ready (rs := [4]) (by kernel_rfl) (by simp) ?_
      refine AllReadyH.cons rfl (fun K hK => ?_) AllReadyH.nil
      go_simp
      refine alloc_one hin (fun w4 p4 k4 => ?_); have P1 := hide p4; have HS' := hide (HS.out.fresh k4); clear HS p4 k4; have HS := HS'; clear HS'
      refine hK.out _ _ HS.out (fun _ => ?_)
      clear hK K
      refine wpAnyH_ready (rs := [9]) (by kernel_rfl) (by simp) ?_
      refine AllReadyH.cons rfl (fun K hK => ?_) AllReadyH.nil
      go_simp
      refine parts_next _ _ _ ?_; intro w5 hb5 k5'; have PA := hide (parts3 hb5 ((PT0.out.fresh HS.out.2.2).fresh k5') (P1.out.fresh k5') ((PT2.out.fresh HS.out.2.2).fresh k5')); have HS' := hide (HS.out.fresh k5'); clear HS k5' hb5 P1; have HS := HS'; clear HS'
      refine hK.out _ _ HS.out (fun _ => ?_)
      clear hK K
      refine wpAnyH_ready (rs := [10]) (by kernel_rfl) (by simp) ?_
      refine AllReadyH.cons rfl (fun K hK => ?_) AllReadyH.nil
      go_simp
      go_wp2_with fail
      refine (mconcat_any _ 0 3 3 _ _ w5 (by decide) PA.out).mono ?_; rintro e w6 ⟨u, rfl, o6, f6⟩; have O6 := hide (o6.mono (Nat.le_trans FW.out.size HS.out.2.2.size)); have HS' := hide (HS.out.fresh f6); clear HS o6 f6; have HS := HS'; clear HS'
      refine hK.out _ _ HS.out (fun _ => ?_)
      clear hK K
      refine held_take (i := 11) (d := 4) (v := ?_) rfl rfl (by kernel_rfl) (by kernel_rfl) (by kernel_rfl) (fun _ _ _ h => h) (by kernel_rfl) ?_ HS.out ?_
      rotate_left
      · intro wz hz
        obtain ⟨z0, z1, -⟩ := hz
        go_simp
        first | done | with_reducible rfl
      refine wpAnyH_done (by kernel_rfl) ?_ _
      try simp only [Act.put, List.setIfInBounds_toArray, List.set_cons_succ, List.set_cons_zero]
      go_wp2
      go_ret
      exact ⟨u, rfl, by rw [PL.out, ← flat3]; exact O6.out, FW.out.trans HS.out.2.2⟩
  | false =>
    obtain ⟨hno, hnx, _⟩ := hit_not hr hx
    have LK := hide (fun w B ho => look_miss (w := w) (B := B) ho HI.out hin.1 hin.2.1 hno)
    have HK := hide (ahead_le ps s1)
    rcases H1.out.cases with ⟨rfl, rfl⟩ | ⟨b, o, cap, rfl, h1, h2, h3, h4, hc⟩
    · have AA := hide (fun w (h : SpansAt w (.slice none 0 0) []) => mahead_any _ [] s1 w h)
      have PT0 := hide (spansIn_nil W1)
      have PT2 := hide (spansIn_nil W1)
      have PL := hide (show putM [] (s1, s2) = [] ++ [(s1, s2)] ++ [] from rfl)
      have HKE := hide (show aheadN [] s1 = 0 from rfl)
      obtain ⟨ps, hps⟩ : ∃ ps : List Pc, ps = [] := ⟨_, rfl⟩
      clear hx h hr hnx hno
      go_enter Try.func24, Try.ntmps24
      go_wp2_with fail
      rw [← HW.out, ← HN.out]
      have HS : Hid (PairB W1 n s1 s2 W1.drew) := H0.out.fresh (Fresh.refl _).drew
      refine wp_region_held (S := PairB W1 n s1 s2) (by kernel_rfl) ?_
      change wpAnyH _ _ _ _ _ _ _ _ (World.drew _)
      refine held_take (i := 0) (d := 9) (v := ?_) rfl rfl (by kernel_rfl) (by kernel_rfl) (by kernel_rfl) (fun _ _ _ h => h) (by kernel_rfl) ?_ HS.out ?_
      rotate_left
      · intro wz hz
        obtain ⟨z0, z1, -⟩ := hz
        go_simp
        first | done | with_reducible rfl
      refine held_take (i := 2) (d := 11) (v := ?_) rfl rfl (by kernel_rfl) (by kernel_rfl) (by kernel_rfl) (fun _ _ _ h => h) (by kernel_rfl) ?_ HS.out ?_
      rotate_left
      · intro wz hz
        obtain ⟨z0, z1, -⟩ := hz
        go_simp
        first | done | with_reducible rfl
      refine held_take (i := 3) (d := 12) (v := ?_) rfl rfl (by kernel_rfl) (by kernel_rfl) (by kernel_rfl) (fun _ _ _ h => h) (by kernel_rfl) ?_ HS.out ?_
      rotate_left
      · intro wz hz
        obtain ⟨z0, z1, -⟩ := hz
        go_simp
        first | done | with_reducible rfl
      refine held_take (i := 4) (d := 13) (v := ?_) rfl rfl (by kernel_rfl) (by kernel_rfl) (by kernel_rfl) (fun _ _ _ h => h) (by kernel_rfl) ?_ HS.out ?_
      rotate_left
      · intro wz hz
        obtain ⟨z0, z1, -⟩ := hz
        go_simp
        first | done | with_reducible rfl
      refine wpAnyH_ready (rs := [1]) (by kernel_rfl) (by simp) ?_
      refine AllReadyH.cons rfl (fun K hK => ?_) AllReadyH.nil
      go_simp
      go_wp2_with fail
      refine (mplaces_any _ _ _ (H1.out.fresh HS.out.2.2).1).mono ?_; rintro e w1 ⟨rfl, o1, f1⟩; obtain ⟨c, l1⟩ := LK.out _ _ o1; have L1 := hide l1; have HS' := hide (HS.out.fresh f1); clear HS o1 f1 l1; have HS := HS'; clear HS'
      refine hK.out _ _ HS.out (fun _ => ?_)
      clear hK K
      refine wpAnyH_ready (rs := [5]) (by kernel_rfl) (by simp) ?_
      refine AllReadyH.cons rfl (fun K hK => ?_) AllReadyH.nil
      rw [if_pos (by rfl)]
      refine wp_lookup_run _ _ 71 rfl _ _ _ rfl rfl L1.out ?_
      refine hK.out _ _ HS.out (fun _ => ?_)
      clear hK K
      simp only [List.getElem_toArray, List.getElem_cons_succ, List.getElem_cons_zero, Act.put, List.setIfInBounds_toArray, List.set_cons_succ, List.set_cons_zero]
      refine held_take (i := 6) (d := 8) (v := ?_) rfl rfl (by kernel_rfl) (by kernel_rfl) (by kernel_rfl) (fun _ _ _ h => h) (by kernel_rfl) ?_ HS.out ?_
      rotate_left
      · intro wz hz
        obtain ⟨z0, z1, -⟩ := hz
        go_simp
        first | done | with_reducible rfl
      refine held_take (i := 7) (d := 15) (v := ?_) rfl rfl (by kernel_rfl) (by kernel_rfl) (by kernel_rfl) (fun _ _ _ h => h) (by kernel_rfl) ?_ HS.out ?_
      rotate_left
      · intro wz hz
        obtain ⟨z0, z1, -⟩ := hz
        go_simp
        first | done | with_reducible rfl
      refine held_take (i := 8) (d := 16) (v := ?_) rfl rfl (by kernel_rfl) (by kernel_rfl) (by kernel_rfl) (fun _ _ _ h => h) (by kernel_rfl) ?_ HS.out ?_
      rotate_left
      · intro wz hz
        obtain ⟨z0, z1, -⟩ := hz
        go_simp
        first | done | with_reducible rfl
      refine held_take (i := 9) (d := 5) (v := ?_) rfl rfl (by kernel_rfl) (by kernel_rfl) (by kernel_rfl) (fun _ _ _ h => h) (by kernel_rfl) ?_ HS.out ?_
      rotate_left
      · intro wz hz
        obtain ⟨z0, z1, -⟩ := hz
        go_simp
        first | done | with_reducible rfl
      refine held_take (i := 10) (d := 6) (v := ?_) rfl rfl (by kernel_rfl) (by kernel_rfl) (by kernel_rfl) (fun _ _ _ h => h) (by kernel_rfl) ?_ HS.out ?_
      rotate_left
      · intro wz hz
        obtain ⟨z0, z1, -⟩ := hz
        go_simp
        first | done | with_reducible rfl
      refine wpAnyH_done (by kernel_rfl) ?_ _
      try simp only [Act.put, List.setIfInBounds_toArray, List.set_cons_succ, List.set_cons_zero]
      obtain ⟨y0, y1, -⟩ := HS.out
      go_wp2_with fail
      refine (AA.out w1 (H1.out.fresh HS.out.2.2).1).mono ?_
      rintro e w3 ⟨rfl, rfl⟩
      clear y0 y1 L1
      rw [HKE.out]
      go_wp2_with fail
      have HS' := hide (HS.out.fresh (Fresh.refl _).drew)
      clear HS
      have HS := HS'
      clear HS'
      refine wp_region_held (S := PairB W1 n s1 s2) (by kernel_rfl) ?_
      change wpAnyH _ _ _ _ _ _ _ _ (World.drew _)
      generalize World.drew w3 = wd at HS ⊢
      refine held_take (i := 0) (d := 33) (v := ?_) rfl rfl (by kernel_rfl) (by kernel_rfl) (by kernel_rfl) (fun _ _ _ h => h) (by kernel_rfl) ?_ HS.out ?_
      rotate_left
      · intro wz hz
        obtain ⟨z0, z1, -⟩ := hz
        go_simp
        first | done | with_reducible rfl
      refine held_take (i := 1) (d := 34) (v := ?_) rfl rfl (by kernel_rfl) (by kernel_rfl) (by kernel_rfl) (fun _ _ _ h => h) (by kernel_rfl) ?_ HS.out ?_
      rotate_left
      · intro wz hz
        obtain ⟨z0, z1, -⟩ := hz
        go_simp
        first | done | with_reducible rfl
      refine held_take (i := 2) (d := 35) (v := ?_) rfl rfl (by kernel_rfl) (by kernel_rfl) (by kernel_rfl) (fun _ _ _ h => h) (by kernel_rfl) ?_ HS.out ?_
      rotate_left
      · intro wz hz
        obtain ⟨z0, z1, -⟩ := hz
        go_simp
        first | done | with_reducible rfl
      refine held_take (i := 3) (d := 36) (v := ?_) rfl rfl (by kernel_rfl) (by kernel_rfl) (by kernel_rfl) (fun _ _ _ h => h) (by kernel_rfl) ?_ HS.out ?_
      rotate_left
      · intro wz hz
        obtain ⟨z0, z1, -⟩ := hz
        go_simp
        first | done | with_reducible rfl
      refine held_take (i := 5) (d := 38) (v := ?_) rfl rfl (by kernel_rfl) (by kernel_rfl) (by kernel_rfl) (fun _ _ _ h => h) (by kernel_rfl) ?_ HS.out ?_
      rotate_left
      · intro wz hz
        obtain ⟨z0, z1, -⟩ := hz
        go_simp
        first | done | with_reducible rfl
      refine held_take (i := 6) (d := 39) (v := ?_) rfl rfl (by kernel_rfl) (by kernel_rfl) (by kernel_rfl) (fun _ _ _ h => h) (by kernel_rfl) ?_ HS.out ?_
      rotate_left
      · intro wz hz
        obtain ⟨z0, z1, -⟩ := hz
        go_simp
        first | done | with_reducible rfl
      refine held_take (i := 7) (d := 40) (v := ?_) rfl rfl (by kernel_rfl) (by kernel_rfl) (by kernel_rfl) (fun _ _ _ h => h) (by kernel_rfl) ?_ HS.out ?_
      rotate_left
      · intro wz hz
        obtain ⟨z0, z1, -⟩ := hz
        go_simp
        first | done | with_reducible rfl
      refine wpAnyH_ready (rs := [4]) (by kernel_rfl) (by simp) ?_
      refine AllReadyH.cons rfl (fun K hK => ?_) AllReadyH.nil
      go_simp
      refine alloc_one hin (fun w4 p4 k4 => ?_); have P1 := hide p4; have HS' := hide (HS.out.fresh k4); clear HS p4 k4; have HS := HS'; clear HS'
      refine hK.out _ _ HS.out (fun _ => ?_)
      clear hK K
      refine wpAnyH_ready (rs := [8]) (by kernel_rfl) (by simp) ?_
      refine AllReadyH.cons rfl (fun K hK => ?_) AllReadyH.nil
      go_simp
      refine parts_next _ _ _ ?_; intro w5 hb5 k5'; have PA := hide (parts3 hb5 ((PT0.out.fresh HS.out.2.2).fresh k5') (P1.out.fresh k5') ((PT2.out.fresh HS.out.2.2).fresh k5')); have HS' := hide (HS.out.fresh k5'); clear HS k5' hb5 P1; have HS := HS'; clear HS'
      refine hK.out _ _ HS.out (fun _ => ?_)
      clear hK K
      refine wpAnyH_ready (rs := [9]) (by kernel_rfl) (by simp) ?_
      refine AllReadyH.cons rfl (fun K hK => ?_) AllReadyH.nil
      go_simp
      go_wp2_with fail
      refine (mconcat_any _ 0 3 3 _ _ w5 (by decide) PA.out).mono ?_; rintro e w6 ⟨u, rfl, o6, f6⟩; have O6 := hide (o6.mono (Nat.le_trans FW.out.size HS.out.2.2.size)); have HS' := hide (HS.out.fresh f6); clear HS o6 f6; have HS := HS'; clear HS'
      refine hK.out _ _ HS.out (fun _ => ?_)
      clear hK K
      refine held_take (i := 10) (d := 4) (v := ?_) rfl rfl (by kernel_rfl) (by kernel_rfl) (by kernel_rfl) (fun _ _ _ h => h) (by kernel_rfl) ?_ HS.out ?_
      rotate_left
      · intro wz hz
        obtain ⟨z0, z1, -⟩ := hz
        go_simp
        first | done | with_reducible rfl
      refine wpAnyH_done (by kernel_rfl) ?_ _
      try simp only [Act.put, List.setIfInBounds_toArray, List.set_cons_succ, List.set_cons_zero]
      go_wp2
      go_ret
      exact ⟨u, rfl, by rw [PL.out, ← flat3]; exact O6.out, FW.out.trans HS.out.2.2⟩
    · obtain ⟨k, hk⟩ : ∃ k, k = aheadN ps s1 := ⟨_, rfl⟩
      have HKE := hide hk.symm
      have AA := hide (fun w (h : SpansAt w (.slice (some ⟨b, o, none⟩) ps.length cap) ps) => mahead_any _ ps s1 w h)
      have k2 : k ≤ ps.length := by rw [hk]; exact HK.out
      have k3 : (0 : Int) ≤ (k : Int) := by omega
      have k4 : (k : Int) ≤ (ps.length : Int) := by omega
      have k5 : (ps.length : Int) ≤ (cap : Int) := by omega
      have k8 : k ≤ cap := by omega
      have PT0 := hide (H1.out.take k2)
      obtain ⟨A, hA⟩ : ∃ A, (if cap = k then some (⟨b, o, none⟩ : Addr) else some ⟨b, o + k * 2, none⟩) = A := ⟨_, rfl⟩
      have PT2 := hide (H1.out.dropIf k2)
      rw [hA] at PT2
      have PL := hide (show putM ps (s1, s2) = ps.take k ++ [(s1, s2)] ++ ps.drop k by unfold putM; simp only [hnx, ← hk]; simp)
      have k6 : (cap : Int) ≤ 9223372036854775807 := by omega
      have k7 : (ps.length : Int) ≤ 1000000 := by omega
      clear hc h1 h2 h3 h4 hk hx h hr hnx hno
      go_enter Try.func24, Try.ntmps24
      go_wp2_with fail
      rw [← HW.out, ← HN.out]
      have HS : Hid (PairB W1 n s1 s2 W1.drew) := H0.out.fresh (Fresh.refl _).drew
      refine wp_region_held (S := PairB W1 n s1 s2) (by kernel_rfl) ?_
      change wpAnyH _ _ _ _ _ _ _ _ (World.drew _)
      refine held_take (i := 0) (d := 9) (v := ?_) rfl rfl (by kernel_rfl) (by kernel_rfl) (by kernel_rfl) (fun _ _ _ h => h) (by kernel_rfl) ?_ HS.out ?_
      rotate_left
      · intro wz hz
        obtain ⟨z0, z1, -⟩ := hz
        go_simp
        first | done | with_reducible rfl
      refine held_take (i := 2) (d := 11) (v := ?_) rfl rfl (by kernel_rfl) (by kernel_rfl) (by kernel_rfl) (fun _ _ _ h => h) (by kernel_rfl) ?_ HS.out ?_
      rotate_left
      · intro wz hz
        obtain ⟨z0, z1, -⟩ := hz
        go_simp
        first | done | with_reducible rfl
      refine held_take (i := 3) (d := 12) (v := ?_) rfl rfl (by kernel_rfl) (by kernel_rfl) (by kernel_rfl) (fun _ _ _ h => h) (by kernel_rfl) ?_ HS.out ?_
      rotate_left
      · intro wz hz
        obtain ⟨z0, z1, -⟩ := hz
        go_simp
        first | done | with_reducible rfl
      refine held_take (i := 4) (d := 13) (v := ?_) rfl rfl (by kernel_rfl) (by kernel_rfl) (by kernel_rfl) (fun _ _ _ h => h) (by kernel_rfl) ?_ HS.out ?_
      rotate_left
      · intro wz hz
        obtain ⟨z0, z1, -⟩ := hz
        go_simp
        first | done | with_reducible rfl
      refine wpAnyH_ready (rs := [1]) (by kernel_rfl) (by simp) ?_
      refine AllReadyH.cons rfl (fun K hK => ?_) AllReadyH.nil
      go_simp
      go_wp2_with fail
      refine (mplaces_any _ _ _ (H1.out.fresh HS.out.2.2).1).mono ?_; rintro e w1 ⟨rfl, o1, f1⟩; obtain ⟨c, l1⟩ := LK.out _ _ o1; have L1 := hide l1; have HS' := hide (HS.out.fresh f1); clear HS o1 f1 l1; have HS := HS'; clear HS'
      refine hK.out _ _ HS.out (fun _ => ?_)
      clear hK K
      refine wpAnyH_ready (rs := [5]) (by kernel_rfl) (by simp) ?_
      refine AllReadyH.cons rfl (fun K hK => ?_) AllReadyH.nil
      rw [if_pos (by rfl)]
      refine wp_lookup_run _ _ 71 rfl _ _ _ rfl rfl L1.out ?_
      refine hK.out _ _ HS.out (fun _ => ?_)
      clear hK K
      simp only [List.getElem_toArray, List.getElem_cons_succ, List.getElem_cons_zero, Act.put, List.setIfInBounds_toArray, List.set_cons_succ, List.set_cons_zero]
      refine held_take (i := 6) (d := 8) (v := ?_) rfl rfl (by kernel_rfl) (by kernel_rfl) (by kernel_rfl) (fun _ _ _ h => h) (by kernel_rfl) ?_ HS.out ?_
      rotate_left
      · intro wz hz
        obtain ⟨z0, z1, -⟩ := hz
        go_simp
        first | done | with_reducible rfl
      refine held_take (i := 7) (d := 15) (v := ?_) rfl rfl (by kernel_rfl) (by kernel_rfl) (by kernel_rfl) (fun _ _ _ h => h) (by kernel_rfl) ?_ HS.out ?_
      rotate_left
      · intro wz hz
        obtain ⟨z0, z1, -⟩ := hz
        go_simp
        first | done | with_reducible rfl
      refine held_take (i := 8) (d := 16) (v := ?_) rfl rfl (by kernel_rfl) (by kernel_rfl) (by kernel_rfl) (fun _ _ _ h => h) (by kernel_rfl) ?_ HS.out ?_
      rotate_left
      · intro wz hz
        obtain ⟨z0, z1, -⟩ := hz
        go_simp
        first | done | with_reducible rfl
      refine held_take (i := 9) (d := 5) (v := ?_) rfl rfl (by kernel_rfl) (by kernel_rfl) (by kernel_rfl) (fun _ _ _ h => h) (by kernel_rfl) ?_ HS.out ?_
      rotate_left
      · intro wz hz
        obtain ⟨z0, z1, -⟩ := hz
        go_simp
        first | done | with_reducible rfl
      refine held_take (i := 10) (d := 6) (v := ?_) rfl rfl (by kernel_rfl) (by kernel_rfl) (by kernel_rfl) (fun _ _ _ h => h) (by kernel_rfl) ?_ HS.out ?_
      rotate_left
      · intro wz hz
        obtain ⟨z0, z1, -⟩ := hz
        go_simp
        first | done | with_reducible rfl
      refine wpAnyH_done (by kernel_rfl) ?_ _
      try simp only [Act.put, List.setIfInBounds_toArray, List.set_cons_succ, List.set_cons_zero]
      obtain ⟨y0, y1, -⟩ := HS.out
      go_wp2_with fail
      refine (AA.out w1 (H1.out.fresh HS.out.2.2).1).mono ?_
      rintro e w3 ⟨rfl, rfl⟩
      clear y0 y1 L1
      rw [HKE.out]
      go_wp2_with fail
      have HS' := hide (HS.out.fresh (Fresh.refl _).drew)
      clear HS
      have HS := HS'
      clear HS'
      refine wp_region_held (S := PairB W1 n s1 s2) (by kernel_rfl) ?_
      change wpAnyH _ _ _ _ _ _ _ _ (World.drew _)
      generalize World.drew w3 = wd at HS ⊢
      refine held_take (i := 0) (d := 33) (v := ?_) rfl rfl (by kernel_rfl) (by kernel_rfl) (by kernel_rfl) (fun _ _ _ h => h) (by kernel_rfl) ?_ HS.out ?_
      rotate_left
      · intro wz hz
        obtain ⟨z0, z1, -⟩ := hz
        go_simp
        first | done | with_reducible rfl
      refine held_take (i := 1) (d := 34) (v := ?_) rfl rfl (by kernel_rfl) (by kernel_rfl) (by kernel_rfl) (fun _ _ _ h => h) (by kernel_rfl) ?_ HS.out ?_
      rotate_left
      · intro wz hz
        obtain ⟨z0, z1, -⟩ := hz
        go_simp
        first | done | with_reducible rfl
      refine held_take (i := 2) (d := 35) (v := ?_) rfl rfl (by kernel_rfl) (by kernel_rfl) (by kernel_rfl) (fun _ _ _ h => h) (by kernel_rfl) ?_ HS.out ?_
      rotate_left
      · intro wz hz
        obtain ⟨z0, z1, -⟩ := hz
        go_simp
        first | done | with_reducible rfl
      refine held_take (i := 3) (d := 36) (v := ?_) rfl rfl (by kernel_rfl) (by kernel_rfl) (by kernel_rfl) (fun _ _ _ h => h) (by kernel_rfl) ?_ HS.out ?_
      rotate_left
      · intro wz hz
        obtain ⟨z0, z1, -⟩ := hz
        go_simp
        first | done | with_reducible rfl
      refine held_take (i := 5) (d := 38) (v := ?_) rfl rfl (by kernel_rfl) (by kernel_rfl) (by kernel_rfl) (fun _ _ _ h => h) (by kernel_rfl) ?_ HS.out ?_
      rotate_left
      · intro wz hz
        obtain ⟨z0, z1, -⟩ := hz
        go_simp
        first | done | with_reducible rfl
      refine held_take (i := 6) (d := 39) (v := ?_) rfl rfl (by kernel_rfl) (by kernel_rfl) (by kernel_rfl) (fun _ _ _ h => h) (by kernel_rfl) ?_ HS.out ?_
      rotate_left
      · intro wz hz
        obtain ⟨z0, z1, -⟩ := hz
        go_simp
        first | done | with_reducible rfl
      refine held_take (i := 7) (d := 40) (v := ?_) rfl rfl (by kernel_rfl) (by kernel_rfl) (by kernel_rfl) (fun _ _ _ h => h) (by kernel_rfl) ?_ HS.out ?_
      rotate_left
      · intro wz hz
        obtain ⟨z0, z1, -⟩ := hz
        go_simp
        first | done | with_reducible rfl
      refine wpAnyH_ready (rs := [4]) (by kernel_rfl) (by simp) ?_
      refine AllReadyH.cons rfl (fun K hK => ?_) AllReadyH.nil
      go_simp
      refine alloc_one hin (fun w4 p4 k4 => ?_); have P1 := hide p4; have HS' := hide (HS.out.fresh k4); clear HS p4 k4; have HS := HS'; clear HS'
      refine hK.out _ _ HS.out (fun _ => ?_)
      clear hK K
      refine wpAnyH_ready (rs := [8]) (by kernel_rfl) (by simp) ?_
      refine AllReadyH.cons rfl (fun K hK => ?_) AllReadyH.nil
      go_simp
      refine parts_next _ _ _ ?_; intro w5 hb5 k5'; have PA := hide (parts3 hb5 ((PT0.out.fresh HS.out.2.2).fresh k5') (P1.out.fresh k5') ((PT2.out.fresh HS.out.2.2).fresh k5')); have HS' := hide (HS.out.fresh k5'); clear HS k5' hb5 P1; have HS := HS'; clear HS'
      refine hK.out _ _ HS.out (fun _ => ?_)
      clear hK K
      refine wpAnyH_ready (rs := [9]) (by kernel_rfl) (by simp) ?_
      refine AllReadyH.cons rfl (fun K hK => ?_) AllReadyH.nil
      go_simp
      go_wp2_with fail
      refine (mconcat_any _ 0 3 3 _ _ w5 (by decide) PA.out).mono ?_; rintro e w6 ⟨u, rfl, o6, f6⟩; have O6 := hide (o6.mono (Nat.le_trans FW.out.size HS.out.2.2.size)); have HS' := hide (HS.out.fresh f6); clear HS o6 f6; have HS := HS'; clear HS'
      refine hK.out _ _ HS.out (fun _ => ?_)
      clear hK K
      refine held_take (i := 10) (d := 4) (v := ?_) rfl rfl (by kernel_rfl) (by kernel_rfl) (by kernel_rfl) (fun _ _ _ h => h) (by kernel_rfl) ?_ HS.out ?_
      rotate_left
      · intro wz hz
        obtain ⟨z0, z1, -⟩ := hz
        go_simp
        first | done | with_reducible rfl
      refine wpAnyH_done (by kernel_rfl) ?_ _
      try simp only [Act.put, List.setIfInBounds_toArray, List.set_cons_succ, List.set_cons_zero]
      go_wp2
      go_ret
      exact ⟨u, rfl, by rw [PL.out, ← flat3]; exact O6.out, FW.out.trans HS.out.2.2⟩
end Go.Proofs.Ytegolecdmpikhaa
