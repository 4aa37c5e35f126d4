/- append(own, make([]byte, k)...): k noughts behind bytes of a call's own (the translation hands the number k over in the slice's place). -/
import Derived.Test.YtbbfbelhdjloeaaByteIn
import Derived.Lib.AppendZerosOnto
namespace Go.Proofs.Ytbbfbelhdjloeaa
open Go.RowKit

theorem zeroCells_noughts (k : Nat) : Builtin.zeroCells (Value.int .u8 0).cells k = (yvals (List.replicate k 0)).toArray := by
  unfold yvals
  rw [List.map_replicate]
  simp only [Builtin.zeroCells, Value.cells]
  apply Array.ext
  · simp
  · intro i h1 h2
    simp [Nat.mod_one]
theorem run_app_noughts (w : World) (base : Nat) (ty : TypeId) (v : Value) (ys : List Int) (k : Nat) (hown : OwnY w base v ys) (hn : ys.length + k ≤ 1048576) (hbase : base ≤ w.heap.size) :
    ∃ v1 w1, (Builtin.append_ #[22, 3] ty #[v, .int .i64 k]).run Try.prog w = .ok v1 w1 ∧ OwnY w1 base v1 (ys ++ List.replicate k 0) ∧ w.grownBy w1 v.ownBlock := by
  obtain ⟨i0, hi, hz0, hz1, hz2⟩ := infoOf infoByte
  have hlen : (yvals (ys ++ List.replicate k 0)).length = ys.length + k := by rw [yvals_length]; simp
  have hyv : yvals (ys ++ List.replicate k 0) = yvals ys ++ yvals (List.replicate k 0) := List.map_append ..
  have hw : IntKind.i64.wrap (k : Int) = k := by rw [IntKind.wrap_i64]; omega
  have grown : ∀ (old : Nat) (row : Option Nat),
      OwnY (w.drew.alloc (.cells ((yvals ys).toArray ++ Builtin.zeroCells (Value.int .u8 0).cells k ++ Builtin.zeroCells (Value.int .u8 0).cells (grownCap w (ys.length + k) old 5 - (ys.length + k))) 5)) base
        (.slice (some ⟨w.heap.size, 0, none⟩) (ys.length + k) (grownCap w (ys.length + k) old 5)) (ys ++ List.replicate k 0) ∧
      w.grownBy (w.drew.alloc (.cells ((yvals ys).toArray ++ Builtin.zeroCells (Value.int .u8 0).cells k ++ Builtin.zeroCells (Value.int .u8 0).cells (grownCap w (ys.length + k) old 5 - (ys.length + k))) 5)) row := by
    intro old row
    have hge := grownCap_ge w (ys.length + k) old 5
    have hcm : grownCap w (ys.length + k) old 5 ≤ maxLen := grownCap_le_maxLen w (ys.length + k) old 5 (by unfold maxLen; omega)
    refine ⟨⟨by rw [hlen]; simp, .inr ⟨w.heap.size, _, _, by simp, hbase, heap_alloc_new w.drew _, by simpa using hge, hcm, ?_, ?_⟩⟩, ⟨rfl, rfl, rfl, by simp, fun j hj _ => heap_alloc_old w.drew _ hj⟩⟩
    · simp [size_zeroCells, yvals_length, Value.cells]
      omega
    · rw [zeroCells_noughts k, hyv]
      simp only [Array.toList_append, List.append_assoc]
      rw [← List.append_assoc]
      exact List.take_left' (by simp [yvals_length])
  rcases hown.2 with ⟨rfl, hn0⟩ | ⟨g, cap, cur, rfl, hbg, hg, hnc, hcm, hcs, htake⟩
  · have hx : ys = [] := List.eq_nil_of_length_eq_zero hn0
    subst hx
    by_cases hm : k = 0
    · subst hm
      refine ⟨.slice none 0 0, w, ?_, by simpa using OwnY.nil w base, ⟨rfl, rfl, rfl, Nat.le_refl _, fun _ _ _ => rfl⟩⟩
      have hw0 : IntKind.i64.wrap 0 = 0 := by rw [IntKind.wrap_i64]; omega
      simp [Builtin.append_, run_underlying Try.underlying22, run_underlying Try.underlying3, sizeOf, typeInfo, hi, asInt, asIntOf, hw0]
    · have hr := Go.Lib.run_append_nil_zeros (P := Try.prog) w 22 3 ty 5 i0 (.int .u8 0) .i64 .i64 Try.underlying22 Try.underlying3 hi hz0 k (by omega) (by omega) (by omega) (by rw [hz2]; simp at hn; omega)
      have hgr := grown 0 (Value.ownBlock (.slice none 0 0))
      simp only [List.length_nil, Nat.zero_add, List.nil_append, show (yvals []).toArray = #[] from rfl, Array.empty_append] at hgr ⊢
      exact ⟨_, _, hr, hgr.1, hgr.2⟩
  · by_cases hroom : ys.length + k ≤ cap
    · have hst := run_storeCells_at Try.prog g ys.length 5 (yvals (List.replicate k 0)) 0 cur w hg (by rw [yvals_length, hcs]; simpa using hroom) (yvals_one _)
      simp only [Nat.add_zero] at hst
      refine ⟨.slice (some ⟨g, 0, none⟩) (ys.length + k) cap, w.setRow g (cur.toList.take ys.length ++ yvals (List.replicate k 0) ++ cur.toList.drop (ys.length + (yvals (List.replicate k 0)).length)).toArray, ?_, ⟨by rw [hlen]; simp, .inr ⟨g, cap, _, by simp, hbg, setRow_heap w g cur _ 5 _ hg, by simpa using hroom, hcm, ?_, ?_⟩⟩, ⟨rfl, rfl, rfl, by simp, fun j _ hk => setRow_other w g j _ (fun e => hk (by simp [Value.ownBlock, e]))⟩⟩
      · have hk0 : ¬ (k : Int) < 0 := by omega
        have hk48 : ¬ 281474976710656 < (k : Int) := by omega
        by_cases hm : k = 0
        · subst hm
          have hw0 : IntKind.i64.wrap 0 = 0 := by rw [IntKind.wrap_i64]; omega
          simp [yvals] at hst
          simp [Builtin.append_, run_underlying Try.underlying22, run_underlying Try.underlying3, sizeOf, typeInfo, hi, hz1, asInt, asIntOf, hw0, hnc, hst, yvals, Addr.add_lit]
        · simp [Builtin.append_, run_underlying Try.underlying22, run_underlying Try.underlying3, sizeOf, typeInfo, zeroValue, hi, hz0, hz1, hz2, asInt, asIntOf, hw, hm, hroom, hk0, hk48, zeroCells_noughts, Addr.add_lit, hst]
      · simp [yvals_length, hcs]
        omega
      · rw [hyv]
        simp only [List.append_assoc]
        rw [← List.append_assoc, show cur.toList.take ys.length = yvals ys by simpa using htake]
        exact List.take_left' (by simp [yvals_length])
    · have holds : (Builtin.firstCells i0.size ys.length (.slice (some ⟨g, 0, none⟩) ys.length cap)).run Try.prog w.drew = .ok (yvals ys).toArray w.drew := by
        have hc := hown.cells (g := g) rfl
        rw [hz1]
        exact run_firstCells_some (P := Try.prog) w.drew 1 ys.length ⟨g, 0, none⟩ ys.length cap (yvals ys) (by rw [yvals_length, Nat.mul_one]) hc
      have hr := Go.Lib.run_append_grow_zeros (P := Try.prog) w 22 3 ty 5 i0 (.int .u8 0) .i64 .i64 Try.underlying22 Try.underlying3 hi hz0 (some ⟨g, 0, none⟩) ys.length cap (yvals ys) holds k (by omega) (by omega) (by omega) (by omega) (by rw [hz2]; omega) (growslice_fits (by omega) (by rw [hz2]; omega))
      have hgr := grown cap (Value.ownBlock (.slice (some ⟨g, 0, none⟩) ys.length cap))
      exact ⟨_, _, hr, hgr.1, hgr.2⟩
/-- an empty slice that is written out -/
theorem ownY_lit0 (w : World) : OwnY (w.alloc (.cells #[] 5)) w.heap.size (.slice (some ⟨w.heap.size, 0, none⟩) 0 0) [] := World.ownsRow_lit w #[] 0 (Nat.le_refl _) (Nat.zero_le _) rfl
/-- at the operation, for the walk -/
theorem wpList_app_noughts {ops : Array Oper} {rest : List Oper} {o : Oper} {a : Act} {Q : Exit → Act → World → Prop} {w : World} (hgd : o.guard = none) (s x : Operand)
    (ho : o.op = .call { callee := .builtin .append, args := #[s, x], argTypes := #[22, 3] })
    (base : Nat) (v : Value) (ys : List Int) (k : Nat) (hs : a.eval s = v) (hown : OwnY w base v ys) (hx : a.eval x = .int .i64 (k : Int)) (hn : ys.length + k ≤ 1048576) (hbase : base ≤ w.heap.size)
    (h : ∀ v1 w1, OwnY w1 base v1 (ys ++ List.replicate k 0) → w.grownBy w1 v.ownBlock → wpList Try.prog ops Q rest (a.put o.dst v1) w1) :
    wpList Try.prog ops Q (o :: rest) a w := by
  refine wpList_plain hgd fun K hK => ?_
  obtain ⟨v', w', hr, h2, h3⟩ := run_app_noughts w base o.type v ys k hown hn hbase
  unfold Oper.wp execOp
  simp only [ho, resolve, invoke, builtin, Sem.run_bind, Sem.run_pure, Result.andThen_ok, List.map_toArray, List.map_cons, List.map_nil, hs, hx, hr]
  exact hK _ _ (h v' w' h2 h3)
end Go.Proofs.Ytbbfbelhdjloeaa
