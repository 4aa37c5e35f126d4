/- What the program's span.places answers: a map from beginnings (structs) to places, as a contract. -/
import Derived.Test.YtcakghafjmdkoaaSpanA
import Derived.Maps.OwnSet
import Derived.MapKept
namespace Go.Proofs.Ytcakghafjmdkoaa
open Go.RowKit Go.Maps

theorem startRow : (55 : TypeId) < Try.prog.types.size := of_decide_eq_true (by kernel_rfl)
theorem startWide : (match Try.prog.underlying 55 with | some (.array _ _) | some (.struct _) => true | _ => false) = true := by rw [Try.underlying55]
theorem startLaw : Keyed Try.prog 55 := Keyed.of_law (deep_law_laid laidOut (m := 2) (by omega) startRow (by kernel_rfl) startWide)
theorem startSize : ∃ n, Try.prog.types.size = n + 1 := ⟨Try.prog.types.size - 1, by have h : 0 < Try.prog.types.size := of_decide_eq_true (by kernel_rfl); omega⟩
theorem startCells : Try.prog.cellsOf 55 = 1 := by kernel_rfl
theorem intCells : Try.prog.cellsOf 3 = 1 := by kernel_rfl
theorem startKey : Try.prog.keyType 55 = true := by kernel_rfl
theorem zeroInt (w : World) : (zeroValue 3).run Try.prog w = .ok (.int .i64 0) w := by kernel_rfl
theorem key_gen {P : Program} {k e : TypeId} {f : Field} (hu : P.underlying k = some (.struct #[f])) (hk : P.keyType k = true) (hc : P.cellsOf k = 1) (hf : f.type = e) (ho : f.offset = 0) (hnm : (f.name != "_") = true) (he : P.underlying e = some (.int .i64)) (hce : P.cellsOf e = 1) {n : Nat} (hn : P.types.size = n + 1)
    (a : Int) (hw : (Lit.int .i64 a).wf = true) : keyOf P k (.agg #[.int .i64 a]) = some (.string (keyBytes [.int .i64 a])) := by
  unfold keyOf
  simp only [hu, hn]
  have h1 : P.keyLits n.succ.succ k [.int .i64 a] = some [.int .i64 a] := by
    have hnm' : ¬ f.name = "_" := by simpa using hnm
    simp [Program.keyLits, hu, hc, hf, ho, hnm', he, hce, hw]
  have h2 : (Value.agg #[.int .i64 a]).formed P k = true := by simp [Value.formed, hu, hc]
  rw [hk, h2]
  have h3 : (Value.agg #[.int .i64 a]).cells.toList = [.int .i64 a] := by simp [Value.cells]
  simp only [Bool.and_self, if_true, h3]
  rw [show n + 1 + 1 = n.succ.succ from rfl, h1]
  rfl
/-- what a beginning reads as -/
def kl (a : Int) : Lit := .string (keyBytes [.int .i64 a])
theorem kl_of {a : Int} (h1 : -9223372036854775808 ≤ a) (h2 : a ≤ 9223372036854775807) : keyOf Try.prog 55 (.agg #[.int .i64 a]) = some (kl a) := by
  obtain ⟨n, hn⟩ := startSize
  exact key_gen Try.underlying55 startKey startCells rfl rfl (by decide) Try.underlying3 intCells hn a (WalkArith.wf_i64 (by omega))
theorem kl_inj {a b : Int} (h1 : -9223372036854775808 ≤ a) (h2 : a ≤ 9223372036854775807) (h3 : -9223372036854775808 ≤ b) (h4 : b ≤ 9223372036854775807) (e : kl a = kl b) : a = b := by
  have ha := kl_of h1 h2
  have hb := kl_of h3 h4
  rw [e] at ha
  have := startLaw.inj ha hb
  simpa using this
theorem kl_key {a : Int} (h1 : -9223372036854775808 ≤ a) (h2 : a ≤ 9223372036854775807) : WideAt.IsKeyLit (kl a) := startLaw.key (kl_of h1 h2)

/-- the map, piece by piece -/
def Dm (ps : List Pc) : Nat → DataW Unit
  | 0 => .map []
  | j + 1 => (Dm ps j).put (kl (nth ps j).1) (.lit (.int .i64 (j : Int)))
theorem Dm_map (ps : List Pc) : ∀ j, IsMap (Dm ps j)
  | 0 => isMap_empty
  | j + 1 => (Dm_map ps j).put _ _
theorem Dm_none (ps : List Pc) (hin : ∀ p ∈ ps, In64 p) (a : Int) (h1 : -9223372036854775808 ≤ a) (h2 : a ≤ 9223372036854775807) : ∀ j, (∀ t, t < j → (nth ps t).1 ≠ a) → Maps.has (Dm ps j) (kl a) = false
  | 0, _ => rfl
  | j + 1, h => by
    have hj := in64_nth hin j
    unfold Dm
    rw [has_put_other (fun e => h j (by omega) (kl_inj h1 h2 hj.1 hj.2.1 e).symm)]
    exact Dm_none ps hin a h1 h2 j fun t ht => h t (by omega)
theorem Dm_some (ps : List Pc) (hin : ∀ p ∈ ps, In64 p) (hv : Val ps) (i : Nat) (hi : i < ps.length) : ∀ j, i < j → j ≤ ps.length → Maps.has (Dm ps j) (kl (nth ps i).1) = true ∧ ∀ z, (Dm ps j).atKey (kl (nth ps i).1) z = .lit (.int .i64 (i : Int))
  | 0, h, _ => by omega
  | j + 1, h, hl => by
    have hj := in64_nth hin j
    have hii := in64_nth hin i
    unfold Dm
    by_cases e : i = j
    · subst e
      exact ⟨has_put_same (Dm_map ps i) (kl_key hii.1 hii.2.1) _, fun z => atKey_put_same (Dm_map ps i) (kl_key hii.1 hii.2.1) _ z⟩
    · have hne : kl (nth ps i).1 ≠ kl (nth ps j).1 := fun e' => e (hv.inj hi (by omega) (kl_inj hii.1 hii.2.1 hj.1 hj.2.1 e'))
      have ih := Dm_some ps hin hv i hi j (by omega) (by omega)
      exact ⟨by rw [has_put_other hne]; exact ih.1, fun z => by rw [atKey_put_other hne]; exact ih.2 z⟩

theorem makeMap_hint (n : Int) (w : World) : (Instr.makeMap 52 (some (.int .i64 n))).run Try.prog w = .ok (.map (some w.heap.size)) (w.alloc (.map #[] 0)) := by
  simp [Instr.makeMap, run_underlying Try.underlying52, asInt, asIntOf]

set_option maxHeartbeats 1000000 in
theorem places_any (v : Value) (ps : List Pc) (w : World) (h : SpansAt w v ps) :
    Calls Try.prog 28 #[v] w fun e w' => e = .returned (.map (some w.heap.size)) ∧ w'.ownsMap Try.prog 55 (plainElem Try.prog 3) w.heap.size ps.length (Dm ps ps.length) ∧ Fresh w w' := by
  have H := hide h
  obtain ⟨a, cap, rfl, hl, hl2, hl3, h4, hn0, hc⟩ := h
  have l0 : (0 : Int) ≤ (ps.length : Int) := by omega
  have l1 : (ps.length : Int) ≤ 1048576 := by omega
  have I := hide (in64_nth h4)
  have hmm := makeMap_hint (ps.length : Int)
  clear hl hl2 hl3 h4 hn0 hc
  have O0 := hide (World.ownsMap_made (H := Unit) w Try.prog 55 (plainElem Try.prog 3))
  have F0 := hide (show Fresh w (w.alloc (.map #[] 0)) from (Below.refl _ _).alloc (Nat.le_refl _) _)
  obtain ⟨B, hB⟩ : ∃ B, B = w.heap.size := ⟨_, rfl⟩
  have HB := hide hB
  rw [← hB] at O0
  clear hB
  go_enter Try.func28, Try.ntmps28
  go_wp2
  rw [← HB.out]
  go_loopw [11] (fun i wr => ∃ j : Nat, j ≤ ps.length ∧ i = .int .i64 (j : Int) ∧ wr.ownsMap Try.prog 55 (plainElem Try.prog 3) B j (Dm ps j) ∧ Fresh w wr) (fun i _ => (ps.length - intOf i).toNat)
  case atStart => exact ⟨0, Nat.zero_le _, rfl, O0.out, F0.out⟩
  case round =>
    obtain ⟨j, hj, rfl, ho, hf⟩ := hrel
    have O := hide ho
    have F := hide hf
    clear ho hf
    by_cases g : j < ps.length
    · have g' : (j : Int) < (ps.length : Int) := by omega
      obtain ⟨a', cap', e, _, _, _, _, _, hc⟩ := H.out.fresh F.out
      cases e
      obtain ⟨b, o, rfl, c0, c1⟩ := hc j g
      clear hc
      have hb : b < wr.heap.size := World.block_lt_of_cell? _ _ c0
      have HI := hide (I.out j)
      have DS := hide (show Dm ps (j + 1) = (Dm ps j).put (kl (nth ps j).1) (.lit (.int .i64 (j : Int))) from rfl)
      generalize nth ps j = p at *
      obtain ⟨p1, p2⟩ := p
      simp only at c0 c1 DS
      have HK := hide (kl_of (a := p1) HI.out.1 HI.out.2.1)
      have HV := hide (plainElem_int (H := Unit) Try.underlying3 (WalkArith.wf_i64 (n := (j : Int)) (by omega)))
      have OA := hide (O.out.alloc (.cells #[.int .i64 p1, .int .i64 p2] 25))
      go_wp2_with (first | (at_mapUpdate; refine wpList_mapUpdate_own _ rfl _ _ _ 52 rfl 55 3 startLaw Try.underlying52 _ B j _ rfl OA.out (by unfold maxLen; omega) _ _ _ rfl rfl HK.out _ [] HV.out ?_; intro w1 hown1 hgrow1) | go_in)
      have O2 := hide (DS.out.symm ▸ hown1)
      have F2 := hide (show Fresh w w1 from (fresh_more F.out _ _).grown hgrow1 (fresh_more F.out _ _).size (fun i hi => by cases hi; rw [HB.out]; exact Nat.le_refl _))
      clear hown1 hgrow1
      go_wp2
      go_roundw
      case rel => exact ⟨j + 1, by omega, by go_num, O2.out, F2.out⟩
      case measure => simp [intOf]; omega
    · obtain rfl : j = ps.length := by omega
      go_wp2
      go_ret
      rw [← HB.out]
      exact ⟨rfl, O.out, F.out⟩
end Go.Proofs.Ytcakghafjmdkoaa
