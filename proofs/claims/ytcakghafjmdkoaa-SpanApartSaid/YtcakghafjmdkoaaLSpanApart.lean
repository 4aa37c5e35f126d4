/- Proved here: hodmanlaw8.SpanApart returns true at every bytes, in any memory: pieces that were put lie apart, whatever was tried, and what was refused lies over one. No condition. -/
import Derived.Test.YtcakghafjmdkoaaSpanLaw
import Derived.Test.YtcakghafjmdkoaaPlaySpan
import Derived.Test.YtcakghafjmdkoaaApartMath
namespace Go.Proofs.Ytcakghafjmdkoaa
open Go.ChangeShapes Go.WideShapes Go.ChangeAt Go.RowKit

/-- the bytes that are taken, in block B; the pieces, in others -/
structure Ap (W : World) (B : Nat) (lv : Value) (ps : List Pc) (f : Nat → Bool) (w : World) : Prop where
  arr : ∃ (cur : Array Value) (bt : TypeId), w.heap[B]? = some (.cells cur bt (0, 0)) ∧ cur.size = 300 ∧ ∀ k, k < 300 → cur[k]? = some (.bool (f k))
  own : SpansOff B w lv ps
  el : Fresh W w
  ge : W.heap.size ≤ B
theorem Ap.fresh {W : World} {B : Nat} {lv : Value} {ps : List Pc} {f : Nat → Bool} {w w' : World} (h : Ap W B lv ps f w) (k : Fresh w w') : Ap W B lv ps f w' := by
  obtain ⟨cur, bt, h1, h2, h3⟩ := h.arr
  exact ⟨⟨cur, bt, by rw [k.block B (Array.getElem?_eq_some_iff.1 h1).1]; exact h1, h2, h3⟩, h.own.fresh k, h.el.trans k, h.ge⟩
theorem Ap.lt {W : World} {B : Nat} {lv : Value} {ps : List Pc} {f : Nat → Bool} {w : World} (h : Ap W B lv ps f w) : B < w.heap.size := by
  obtain ⟨cur, bt, h1, _⟩ := h.arr
  exact (Array.getElem?_eq_some_iff.1 h1).1
theorem Ap.bit {W : World} {B : Nat} {lv : Value} {ps : List Pc} {f : Nat → Bool} {w : World} (h : Ap W B lv ps f w) (k : Nat) (hk : k < 300) : w.cell? ⟨B, k, none⟩ = some (.bool (f k)) ∧ w.frozen? ⟨B, k, none⟩ = false := by
  obtain ⟨cur, bt, h1, h2, h3⟩ := h.arr
  exact ⟨cell_block h1 k _ (h3 k hk), free_block h1 k⟩
theorem SpansOff.set {P : Nat} {w : World} {v : Value} {ps : List Pc} (h : SpansOff P w v ps) (j : Nat) (u : Value) : SpansOff P (w.setCell ⟨P, j, none⟩ u) v ps :=
  fun w' hw => h w' fun i hi hl => by rw [hw i hi (by simpa [World.setCell] using hl), heap_setCell_other w ⟨P, j, none⟩ i u hi]
theorem Ap.put {W : World} {B : Nat} {lv : Value} {ps : List Pc} {f : Nat → Bool} {w : World} (h : Ap W B lv ps f w) (k : Nat) (b : Bool) : Ap W B lv ps (fun i => if i = k then b else f i) (w.setCell ⟨B, k, none⟩ (.bool b)) := by
  obtain ⟨cur, bt, a1, a2, a3⟩ := h.arr
  refine ⟨⟨_, bt, heap_set_same a1 _, by simpa using a2, fun i hi => ?_⟩, h.own.set k _, fresh_set h.el h.ge k _, h.ge⟩
  by_cases e : i = k
  · subst e
    rw [if_pos rfl, Array.getElem?_setIfInBounds, if_pos rfl, if_pos (by omega)]
  · rw [if_neg e, Array.getElem?_setIfInBounds, if_neg (fun e' => e e'.symm)]
    exact a3 i hi
theorem Ap.congr {W : World} {B : Nat} {lv : Value} {ps : List Pc} {f g : Nat → Bool} {w : World} (h : Ap W B lv ps f w) (e : ∀ k, k < 300 → f k = g k) : Ap W B lv ps g w := by
  obtain ⟨cur, bt, a1, a2, a3⟩ := h.arr
  exact ⟨⟨cur, bt, a1, a2, fun k hk => by rw [← e k hk]; exact a3 k hk⟩, h.own, h.el, h.ge⟩
theorem Ap.list {W : World} {B : Nat} {lv lv' : Value} {ps ps' : List Pc} {f : Nat → Bool} {w : World} (h : Ap W B lv ps f w) (k : SpansOff B w lv' ps') : Ap W B lv' ps' f w := ⟨h.arr, k, h.el, h.ge⟩
theorem zeros300 (k : Nat) (hk : k < 300) : (Array.replicate 300 (Value.bool false))[k]? = some (.bool false) := by simp [hk]

/-- the bytes that came in -/
def RowAt (w : World) (a : Option Addr) (len : Nat) : Prop := ∀ i, i < len → ∃ b o z, a = some ⟨b, o, none⟩ ∧ w.cell? ⟨b, o + i, none⟩ = some (.int .u8 z) ∧ 0 ≤ z ∧ z ≤ 255
theorem IsRow.at {w : World} {a : Option Addr} {len cap : Nat} {zs : List Int} (h : IsRow .u8 w a len cap zs) : RowAt w a len := by
  intro i hi
  rcases h with ⟨rfl, rfl, rfl, rfl⟩ | ⟨x, rfl, hl, hm, hz, hc, hw⟩
  · omega
  · obtain ⟨b, o, s⟩ := x
    have hs : s = none := by simpa [Addr.add] using World.cell?_spot (hc 0 (by omega))
    subst hs
    have h1 := hc i (by omega)
    rw [Go.WideShapes.add_plain b o i] at h1
    have hb := bounds_u8 (hw (zs.getD i 0) (by rw [List.getD_eq_getElem?_getD, List.getElem?_eq_getElem (show i < zs.length by omega)]; exact List.getElem_mem _))
    exact ⟨b, o, zs.getD i 0, rfl, h1, hb.1, hb.2⟩
/-- what holds of the pieces after q tries -/
structure Tried (q : Nat) (ps : List Pc) : Prop where
  val : Val ps
  len : ps.length ≤ q
  low : ∀ p ∈ ps, p.1 + p.2 ≤ 300
theorem Tried.put {q : Nat} {ps : List Pc} (h : Tried q ps) {X Y : Nat} (hXY : X + Y ≤ 300) : Tried (q + 1) (putL ps ((X : Int), (Y : Int))) := by
  refine ⟨val_put h.val _, by have := put_length ps ((X : Int), (Y : Int)); have := h.len; omega, fun p hp => ?_⟩
  unfold putL at hp
  split at hp
  · unfold insV at hp
    rcases List.mem_append.1 hp with hp | hp
    · exact h.low p (List.mem_of_mem_take hp)
    · rcases List.mem_cons.1 hp with rfl | hp
      · show (X : Int) + Y ≤ 300; omega
      · exact h.low p (List.mem_of_mem_drop hp)
  · exact h.low p hp
/-- what is held over the region: two bytes -/
def HeldB (W : World) (b o o2 : Nat) (z0 z1 : Int) (w : World) : Prop := w.cell? ⟨b, o, none⟩ = some (.int .u8 z0) ∧ w.cell? ⟨b, o2, none⟩ = some (.int .u8 z1) ∧ Fresh W w
theorem HeldB.fresh {W : World} {b o o2 : Nat} {z0 z1 : Int} {w w' : World} (h : HeldB W b o o2 z0 z1 w) (k : Fresh w w') : HeldB W b o o2 z0 z1 w' :=
  ⟨(k.cell (World.block_lt_of_cell? _ _ h.1)).trans h.1, (k.cell (World.block_lt_of_cell? _ _ h.2.1)).trans h.2.1, h.2.2.trans k⟩
theorem wrapA {a : Int} (h1 : -9223372036854775808 ≤ a) (h2 : a ≤ 9223372036854775807) : IntKind.i64.wrap a = a := by rw [IntKind.wrap_i64]; omega

set_option maxRecDepth 100000 in
set_option maxHeartbeats 4000000 in
theorem spanApart_walk0 (a : Option Addr) (len cap : Nat) (zs : List Int) (w : World) (hrow : IsRow .u8 w a len cap zs) :
    Calls Try.prog 4 #[.slice a len cap] w fun e w' => e = .returned (.bool true) ∧ Fresh w w' := by
  by_cases h40 : len ≤ 40
  · have l0 : (len : Int) ≤ 40 := by omega
    have RW := hide hrow.at
    have t40 : decide ((40 : Int) < (len : Int)) = false := decide_eq_false (by omega)
    obtain ⟨Z, hZ, hZs, hZk⟩ : ∃ Z : Array Value, (∀ w : World, (zeroValue 36).run Try.prog w = .ok (.agg Z) w) ∧ Z.size = 300 ∧ ∀ k, k < 300 → Z[k]? = some (.bool false) := ⟨Array.replicate 300 (.bool false), fun _ => by kernel_rfl, by simp, zeros300⟩
    have ZS := hide hZs
    have ZK := hide hZk
    clear hrow h40 hZs hZk
    go_enter Try.func4, Try.ntmps4
    go_wp2_with fail
    refine (begun8_true _).mono ?_
    rintro e w1 ⟨rfl, k1⟩
    have K1 := hide k1
    clear k1
    go_wp2
    have A0 := hide (show Ap w w1.heap.size (.slice none 0 0) [] (fun _ => false) (w1.alloc (.cells Z 36)) from
      ⟨⟨Z, 36, heap_alloc_new w1 _, ZS.out, ZK.out⟩, spansOff_nil _ _, fresh_more K1.out _ _, K1.out.size⟩)
    try rw [t40]
    generalize w1.alloc (.cells Z 36) = W at A0 ⊢
    generalize w1.heap.size = B at A0 ⊢
    clear K1 ZS ZK hZ
    go_loopw [3, 5] (fun lv i wr => ∃ (q I : Nat) (ps : List Pc), I = 2 * q ∧ I ≤ len + 1 ∧ i = .int .i64 (I : Int) ∧ Tried q ps ∧ Ap w B lv ps (cov ps) wr) (fun _ i _ => (len + 1 - intOf i).toNat)
    case atStart => exact ⟨0, 0, [], rfl, Nat.zero_le _, rfl, ⟨val_nil, Nat.le_refl _, fun p hp => by simp at hp⟩, A0.out⟩
    case round =>
      obtain ⟨q, I, ps, hI, hIl, rfl, htr, hap⟩ := hrel
      have T := hide htr
      have A := hide hap
      have HI := hide hI
      have i0 : (0 : Int) ≤ (I : Int) := by omega
      have i1 : (I : Int) ≤ 41 := by omega
      have i2 : IntKind.i64.wrap ((I : Int) + 1) = ((I + 1 : Nat) : Int) := wrap_next (by omega)
      clear htr hap A0 hI
      by_cases g : I + 1 < len
      · have g1 : (I : Int) + 1 < (len : Int) := by omega
        have g2 : (I : Int) < (len : Int) := by omega
        have g3 : (0 : Int) ≤ (I : Int) + 1 := by omega
        obtain ⟨b, o, z0, rfl, c0, b0, b0'⟩ := RW.out I (by omega)
        obtain ⟨b', o', z1, e, c1, b1, b1'⟩ := RW.out (I + 1) g
        cases e
        obtain ⟨d, hd⟩ : ∃ d, z1.tmod 20 = d := ⟨_, rfl⟩
        have hd2 : 0 ≤ d ∧ d ≤ 19 := by rw [← hd, Int.tmod_eq_emod_of_nonneg b1]; omega
        obtain ⟨X, rfl⟩ : ∃ X : Nat, z0 = X := ⟨z0.toNat, by omega⟩
        obtain ⟨Y, hY⟩ : ∃ Y : Nat, 1 + d = Y := ⟨(1 + d).toNat, by omega⟩
        have x1 : X ≤ 255 := by omega
        have y0 : 1 ≤ Y := by omega
        have y1 : Y ≤ 20 := by omega
        have wx : IntKind.i64.wrap (X : Int) = (X : Int) := wrapA (by omega) (by omega)
        have wdd : IntKind.i64.wrap d = d := wrapA (by omega) (by omega)
        have wy : IntKind.i64.wrap (Y : Int) = (Y : Int) := wrapA (by omega) (by omega)
        have HC := hide (show HeldB w b (o + I) (o + (I + 1)) (X : Int) z1 w from ⟨c0, c1, Fresh.refl _⟩)
        have HS : Hid (HeldB w b (o + I) (o + (I + 1)) (X : Int) z1 wr.drew) := HC.out.fresh A.out.el.drew
        have AD := hide (A.out.fresh (Fresh.refl _).drew)
        clear c0 c1
        go_wp2_with fail
        refine wp_region_held (S := HeldB w b (o + I) (o + (I + 1)) (X : Int) z1) (by kernel_rfl) ?_
        change wpAnyH _ _ _ _ _ _ _ _ (World.drew _)
        generalize World.drew wr = wd at HS AD ⊢
        refine held_take (i := 0) (d := 27) (v := ?_) rfl rfl (by kernel_rfl) (by kernel_rfl) (by kernel_rfl) (fun _ _ _ h => h) (by kernel_rfl) ?_ HS.out ?_
        rotate_left
        · intro wz hz
          obtain ⟨q0, q1, -⟩ := hz
          go_simp
          first | done | with_reducible rfl
        refine held_take (i := 1) (d := 28) (v := ?_) rfl rfl (by kernel_rfl) (by kernel_rfl) (by kernel_rfl) (fun _ _ _ h => h) (by kernel_rfl) ?_ HS.out ?_
        rotate_left
        · intro wz hz
          obtain ⟨q0, q1, -⟩ := hz
          go_simp
          first | done | with_reducible rfl
        refine held_take (i := 2) (d := 29) (v := ?_) rfl rfl (by kernel_rfl) (by kernel_rfl) (by kernel_rfl) (fun _ _ _ h => h) (by kernel_rfl) ?_ HS.out ?_
        rotate_left
        · intro wz hz
          obtain ⟨q0, q1, -⟩ := hz
          go_simp
          first | done | with_reducible rfl
        refine held_take (i := 3) (d := 30) (v := ?_) rfl rfl (by kernel_rfl) (by kernel_rfl) (by kernel_rfl) (fun _ _ _ h => h) (by kernel_rfl) ?_ HS.out ?_
        rotate_left
        · intro wz hz
          obtain ⟨q0, q1, -⟩ := hz
          go_simp
          first | done | with_reducible rfl
        refine held_take (i := 4) (d := 31) (v := ?_) rfl rfl (by kernel_rfl) (by kernel_rfl) (by kernel_rfl) (fun _ _ _ h => h) (by kernel_rfl) ?_ HS.out ?_
        rotate_left
        · intro wz hz
          obtain ⟨q0, q1, -⟩ := hz
          go_simp
          first | done | with_reducible rfl
        refine held_take (i := 5) (d := 32) (v := ?_) rfl rfl (by kernel_rfl) (by kernel_rfl) (by kernel_rfl) (fun _ _ _ h => h) (by kernel_rfl) ?_ HS.out ?_
        rotate_left
        · intro wz hz
          obtain ⟨q0, q1, -⟩ := hz
          go_simp
          first | done | with_reducible rfl
        refine held_take (i := 6) (d := 33) (v := ?_) rfl rfl (by kernel_rfl) (by kernel_rfl) (by kernel_rfl) (fun _ _ _ h => h) (by kernel_rfl) ?_ HS.out ?_
        rotate_left
        · intro wz hz
          obtain ⟨q0, q1, -⟩ := hz
          go_simp
          first | done | with_reducible rfl
        refine held_take (i := 7) (d := 34) (v := ?_) rfl rfl (by kernel_rfl) (by kernel_rfl) (by kernel_rfl) (fun _ _ _ h => h) (by kernel_rfl) ?_ HS.out ?_
        rotate_left
        · intro wz hz
          obtain ⟨q0, q1, -⟩ := hz
          go_simp
          first | done | with_reducible rfl
        refine held_take (i := 8) (d := 35) (v := ?_) rfl rfl (by kernel_rfl) (by kernel_rfl) (by kernel_rfl) (fun _ _ _ h => h) (by kernel_rfl) ?_ HS.out ?_
        rotate_left
        · intro wz hz
          obtain ⟨q0, q1, -⟩ := hz
          go_simp
          first | done | with_reducible rfl
        refine held_take (i := 9) (d := 36) (v := ?_) rfl rfl (by kernel_rfl) (by kernel_rfl) (by kernel_rfl) (fun _ _ _ h => h) (by kernel_rfl) ?_ HS.out ?_
        rotate_left
        · intro wz hz
          obtain ⟨q0, q1, -⟩ := hz
          go_simp
          first | done | with_reducible rfl
        refine held_take (i := 10) (d := 37) (v := ?_) rfl rfl (by kernel_rfl) (by kernel_rfl) (by kernel_rfl) (fun _ _ _ h => h) (by kernel_rfl) ?_ HS.out ?_
        rotate_left
        · intro wz hz
          obtain ⟨q0, q1, -⟩ := hz
          go_simp
          first | done | with_reducible rfl
        refine held_take (i := 11) (d := 38) (v := ?_) rfl rfl (by kernel_rfl) (by kernel_rfl) (by kernel_rfl) (fun _ _ _ h => h) (by kernel_rfl) ?_ HS.out ?_
        rotate_left
        · intro wz hz
          obtain ⟨q0, q1, -⟩ := hz
          go_simp
          first | done | with_reducible rfl
        refine held_take (i := 12) (d := 39) (v := ?_) rfl rfl (by kernel_rfl) (by kernel_rfl) (by kernel_rfl) (fun _ _ _ h => h) (by kernel_rfl) ?_ HS.out ?_
        rotate_left
        · intro wz hz
          obtain ⟨q0, q1, -⟩ := hz
          go_simp
          first | done | with_reducible rfl
        refine held_take (i := 13) (d := 40) (v := ?_) rfl rfl (by kernel_rfl) (by kernel_rfl) (by kernel_rfl) (fun _ _ _ h => h) (by kernel_rfl) ?_ HS.out ?_
        rotate_left
        · intro wz hz
          obtain ⟨q0, q1, -⟩ := hz
          go_simp
          first | done | with_reducible rfl
        refine wpAnyH_ready (rs := [14]) (by kernel_rfl) (by simp) ?_
        refine AllReadyH.cons rfl (fun K hK => ?_) AllReadyH.nil
        go_simp
        have HS' := hide (HS.out.fresh (fresh_box wd #[.int .i64 0, .int .i64 0] 25)); clear HS; have HS := HS'; clear HS'
        refine hK.out _ _ HS.out (fun _ => ?_)
        clear hK K
        have W0 := hide (Fresh.refl wd)
        refine wpAnyH_ready (rs := [15]) (by kernel_rfl) (by simp) ?_
        refine AllReadyH.cons rfl (fun K hK => ?_) AllReadyH.nil
        go_simp
        refine parts_next _ _ _ ?_; intro w6 bS k6; have A6 := hide (AD.out.fresh k6); have BS := hide bS; have BB := hide (show B < wd.heap.size from AD.out.lt); have HS' := hide (HC.out.fresh A6.out.el); clear HS k6 bS; have HS := HS'; clear HS'
        refine hK.out _ _ HS.out (fun _ => ?_)
        clear hK K
        refine wpAnyH_done (by kernel_rfl) ?_ _
        try simp only [Act.put, List.setIfInBounds_toArray, List.set_cons_succ, List.set_cons_zero]
        generalize wd.heap.size = S at *
        clear AD A HS W0
        have s0 : w6.cell? ⟨S, 0, none⟩ = some (.int .i64 (X : Int)) := cell_block BS.out 0 _ rfl
        have s1 : w6.cell? ⟨S, 1, none⟩ = some (.int .i64 (Y : Int)) := cell_block BS.out 1 _ rfl
        have AL := hide (show aloneB ((X : Int), (Y : Int)) = true from (alone_iff _).2 (by simp only; omega))
        have PF := hide (put_free T.out.val.1 AL.out)
        have y2 : (0 : Int) ≤ (Y : Int) := by omega
        have y3 : (Y : Int) ≤ 20 := by omega
        have x2 : (0 : Int) ≤ (X : Int) := by omega
        have x3 : (X : Int) ≤ 255 := by omega
        clear hd hd2 hY wx wdd wy b0 b0' b1 b1' HC
        go_wp2
        go_loop [7, 8] (fun fr i => ∃ k : Nat, k ≤ Y ∧ i = .int .i64 (k : Int) ∧ fr = .bool (freeN (cov ps) X k)) (fun _ i => (Y - intOf i).toNat)
        case atStart => exact ⟨0, Nat.zero_le _, rfl, rfl⟩
        case round =>
          obtain ⟨k, hk, rfl, rfl⟩ := hrel
          have k0 : (0 : Int) ≤ (k : Int) := by omega
          by_cases gk : k < Y
          · have k1 : (k : Int) < (Y : Int) := by omega
            have k2 : IntKind.i64.wrap ((X : Int) + (k : Int)) = ((X + k : Nat) : Int) := by rw [wrapA (by omega) (by omega)]; omega
            have k3 : (X : Int) + (k : Int) < 300 := by omega
            have k4 : (0 : Int) ≤ (X : Int) + (k : Int) := by omega
            have SF := hide (show freeN (cov ps) X (k + 1) = (freeN (cov ps) X k && !cov ps (X + k)) from rfl)
            obtain ⟨q0, -⟩ := A6.out.bit (X + k) (by omega)
            generalize cov ps (X + k) = cb at *
            cases hfl : freeN (cov ps) X k with
            | true =>
              rw [hfl] at SF
              go_wp2
              go_round
              case rel => exact ⟨k + 1, by omega, by go_num, by rw [SF.out]; rfl⟩
              case measure => simp [intOf]; omega
            | false =>
              rw [hfl] at SF
              go_wp2
              go_round
              case rel => exact ⟨k + 1, by omega, by go_num, by rw [SF.out]; rfl⟩
              case measure => simp [intOf]; omega
          · obtain rfl : Y = k := by omega
            have TP := hide (T.out.put (X := X) (Y := Y) (by omega))
            have PY := hide (fun h => putL_yes (ps := ps) (s := ((X : Int), (Y : Int))) h)
            have PN := hide (fun h => putL_no (ps := ps) (s := ((X : Int), (Y : Int))) h)
            have PU := hide (put_any u3 ps X Y w6 A6.out.own.in T.out.val.1 (by have := T.out.len; have := HI.out; omega) (by unfold In64; simp only; omega))
            rw [PF.out] at PU PY PN
            clear PF AL
            generalize freeN (cov ps) X Y = r at *
            generalize hP : putL ps ((X : Int), (Y : Int)) = P at *
            go_wp2_with fail
            refine PU.out.mono ?_
            rintro e w7 ⟨u, rfl, o7, f7⟩
            have LP := hide (show P.length ≤ 1048576 by have := TP.out.len; have := HI.out; omega)
            have N7 := hide (o7.off A6.out.lt LP.out TP.out.val.1.in64)
            have A7 := hide (A6.out.fresh f7)
            have BS7 := hide (show w7.heap[S]? = some (.cells #[.int .i64 (X : Int), .int .i64 (Y : Int)] 25 (0, 0)) by rw [f7.block S (Array.getElem?_eq_some_iff.1 BS.out).1]; exact BS.out)
            have NE := hide (show S ≠ B by have := BB.out; omega)
            clear o7 f7 s0 s1 PU A6 BS BB
            cases r with
            | true =>
              have hins : P = insV ps ((X : Int), (Y : Int)) := PY.out rfl
              have CV := hide (show ∀ t, (cov ps t || decide (X ≤ t ∧ t < X + Y)) = cov P t from fun t => by
                rw [hins, cov_ins]
                congr 1
                rw [Bool.eq_iff_iff, in_iff, decide_eq_true_eq]
                simp only
                omega)
              clear hP hins PY PN
              have L0 := hide ((A7.out.list N7.out).congr (g := fun t => cov ps t || decide (X ≤ t ∧ t < X + 0)) (fun t _ => by simp; omega))
              clear A7 N7
              go_wp2
              go_loopw [11] (fun i ws => ∃ k : Nat, k ≤ Y ∧ i = .int .i64 (k : Int) ∧ Ap w B u P (fun t => cov ps t || decide (X ≤ t ∧ t < X + k)) ws ∧ ws.heap[S]? = some (.cells #[.int .i64 (X : Int), .int .i64 (Y : Int)] 25 (0, 0))) (fun i _ => (Y - intOf i).toNat)
              case atStart => exact ⟨0, Nat.zero_le _, rfl, L0.out, BS7.out⟩
              case round =>
                obtain ⟨k, hk, rfl, hA, hB⟩ := hrel
                have AK := hide hA
                have BK := hide hB
                have k0 : (0 : Int) ≤ (k : Int) := by omega
                have s0 : wr.cell? ⟨S, 0, none⟩ = some (.int .i64 (X : Int)) := cell_block hB 0 _ rfl
                have s1 : wr.cell? ⟨S, 1, none⟩ = some (.int .i64 (Y : Int)) := cell_block hB 1 _ rfl
                clear hA hB L0 BS7
                by_cases gk : k < Y
                · have k1 : (k : Int) < (Y : Int) := by omega
                  have k2 : IntKind.i64.wrap ((X : Int) + (k : Int)) = ((X + k : Nat) : Int) := by rw [wrapA (by omega) (by omega)]; omega
                  have k3 : (X : Int) + (k : Int) < 300 := by omega
                  have k4 : (0 : Int) ≤ (X : Int) + (k : Int) := by omega
                  obtain ⟨q0, q1⟩ := AK.out.bit (X + k) (by omega)
                  have AN := hide ((AK.out.put (X + k) true).congr (g := fun t => cov ps t || decide (X ≤ t ∧ t < X + (k + 1))) (fun t _ => by
                    by_cases e : t = X + k
                    · rw [if_pos e]
                      have : decide (X ≤ t ∧ t < X + (k + 1)) = true := decide_eq_true (by omega)
                      simp only [this, Bool.or_true]
                    · rw [if_neg e]
                      congr 1
                      exact decide_eq_decide.2 (by omega)))
                  have BN := hide (show (wr.setCell ⟨B, X + k, none⟩ (.bool true)).heap[S]? = some (.cells #[.int .i64 (X : Int), .int .i64 (Y : Int)] 25 (0, 0)) from heap_set_other BK.out NE.out _)
                  generalize (cov ps (X + k) || decide (X ≤ X + k ∧ X + k < X + k)) = ob at q0
                  go_wp2
                  go_roundw
                  case rel => exact ⟨k + 1, by omega, by go_num, AN.out, BN.out⟩
                  case measure => simp [intOf]; omega
                · obtain rfl : Y = k := by omega
                  have A8 := hide (AK.out.congr (g := cov P) (fun t _ => CV.out t))
                  clear AK CV BK
                  have CT := hide (cnt_cov P 300 TP.out.val TP.out.low)
                  have CE := hide (last_cov TP.out.val TP.out.low)
                  have TT := hide (fun v w h => total_to v P ((cntB (cov P) 300 : Nat) : Int) CT.out.symm w h TP.out.val.1)
                  have TE := hide (fun v w h => end_to v P ((lastB (cov P) 300 : Nat) : Int) CE.out.symm w h TP.out.val.1)
                  have TM := hide (fun v w h => may_to v P true TP.out.val.may w h)
                  clear CT CE
                  go_wp2
                  go_loop [12, 13, 14] (fun nn ee i => ∃ k : Nat, k ≤ 300 ∧ i = .int .i64 (k : Int) ∧ nn = .int .i64 ((cntB (cov P) k : Nat) : Int) ∧ ee = .int .i64 ((lastB (cov P) k : Nat) : Int)) (fun _ _ i => (300 - intOf i).toNat)
                  case atStart => exact ⟨0, Nat.zero_le _, rfl, rfl, rfl⟩
                  case round =>
                    obtain ⟨m, hm, rfl, rfl, rfl⟩ := hrel
                    have m0 : (0 : Int) ≤ (m : Int) := by omega
                    by_cases gm : m < 300
                    · have m1 : (m : Int) < 300 := by omega
                      obtain ⟨q0, -⟩ := A8.out.bit m gm
                      have SC := hide (show cntB (cov P) (m + 1) = cntB (cov P) m + (if cov P m then 1 else 0) from rfl)
                      have SL := hide (show lastB (cov P) (m + 1) = (if cov P m then m + 1 else lastB (cov P) m) from rfl)
                      have n1 : ((cntB (cov P) m : Nat) : Int) ≤ 300 := by have := cntB_le (cov P) m; omega
                      have n0 : (0 : Int) ≤ ((cntB (cov P) m : Nat) : Int) := by omega
                      cases hc : cov P m with
                      | true =>
                        rw [hc] at SC SL q0
                        generalize hcm : ((cntB (cov P) m : Nat) : Int) = cm at *
                        generalize ((lastB (cov P) m : Nat) : Int) = lm at *
                        have HCM := hide hcm
                        clear hcm hc
                        go_wp2
                        go_round
                        case rel => exact ⟨m + 1, by omega, by go_num, by rw [SC.out, ← HCM.out]; rfl, by rw [SL.out]; rfl⟩
                        case measure => simp [intOf]; omega
                      | false =>
                        rw [hc] at SC SL q0
                        generalize hcm : ((cntB (cov P) m : Nat) : Int) = cm at *
                        generalize hlm : ((lastB (cov P) m : Nat) : Int) = lm at *
                        have HCM := hide hcm
                        have HLM := hide hlm
                        clear hcm hlm hc
                        go_wp2
                        go_round
                        case rel => exact ⟨m + 1, by omega, by go_num, by rw [SC.out, ← HCM.out]; rfl, by rw [SL.out, ← HLM.out]; rfl⟩
                        case measure => simp [intOf]; omega
                    · obtain rfl : m = 300 := by omega
                      generalize ((cntB (cov P) 300 : Nat) : Int) = cm at *
                      generalize ((lastB (cov P) 300 : Nat) : Int) = lm at *
                      go_wp2_with fail
                      refine (TT.out _ _ A8.out.own.in.1).mono ?_
                      rintro e w9 ⟨rfl, f9⟩
                      have A9 := hide (A8.out.fresh f9)
                      clear f9
                      go_wp2_with fail
                      refine (TE.out _ _ A9.out.own.in.1).mono ?_
                      rintro e w10 ⟨rfl, f10⟩
                      have A10 := hide (A9.out.fresh f10)
                      clear f10
                      go_wp2_with fail
                      refine (TM.out _ _ A10.out.own.in.1).mono ?_
                      rintro e w11 ⟨rfl, f11⟩
                      have A11 := hide (A10.out.fresh f11)
                      clear f11
                      go_wp2
                      go_roundw
                      case rel => exact ⟨q + 1, I + 2, P, by have := HI.out; omega, by omega, by go_num, TP.out, A11.out⟩
                      case measure => simp [intOf]; omega
            | false =>
              have hins : P = ps := PN.out rfl
              have A8 := hide ((A7.out.list N7.out).congr (g := cov P) (fun t _ => by rw [hins]))
              have SM := hide (show Calls Try.prog 13 #[u, u3] w7 fun e w' => e = .returned (.bool true) ∧ ∃ n, w' = w7.drewN n from same_to u u3 P ps true (by rw [hins]; simp) w7 N7.out.in.1 A7.out.own.in.1)
              clear hP hins PY PN A7 N7
              go_wp2_with fail
              refine SM.out.mono ?_
              rintro e w12 ⟨rfl, nn, rfl⟩
              have A12 := hide (A8.out.fresh (Fresh.drewN w7 nn))
              have s1 : (w7.drewN nn).cell? ⟨S, 1, none⟩ = some (.int .i64 (Y : Int)) := cell_block (w := w7) BS7.out 1 _ rfl
              generalize World.drewN w7 nn = w13 at *
              clear A8 SM
              have A8 := A12
              clear A12 BS7
              go_wp2
              refine wp_loop_rounds 1 ?_
              rw [rounds_succ]
              have CT := hide (cnt_cov P 300 TP.out.val TP.out.low)
              have CE := hide (last_cov TP.out.val TP.out.low)
              have TT := hide (fun v w h => total_to v P ((cntB (cov P) 300 : Nat) : Int) CT.out.symm w h TP.out.val.1)
              have TE := hide (fun v w h => end_to v P ((lastB (cov P) 300 : Nat) : Int) CE.out.symm w h TP.out.val.1)
              have TM := hide (fun v w h => may_to v P true TP.out.val.may w h)
              clear CT CE
              go_wp2
              go_loop [12, 13, 14] (fun nn ee i => ∃ k : Nat, k ≤ 300 ∧ i = .int .i64 (k : Int) ∧ nn = .int .i64 ((cntB (cov P) k : Nat) : Int) ∧ ee = .int .i64 ((lastB (cov P) k : Nat) : Int)) (fun _ _ i => (300 - intOf i).toNat)
              case atStart => exact ⟨0, Nat.zero_le _, rfl, rfl, rfl⟩
              case round =>
                obtain ⟨m, hm, rfl, rfl, rfl⟩ := hrel
                have m0 : (0 : Int) ≤ (m : Int) := by omega
                by_cases gm : m < 300
                · have m1 : (m : Int) < 300 := by omega
                  obtain ⟨q0, -⟩ := A8.out.bit m gm
                  have SC := hide (show cntB (cov P) (m + 1) = cntB (cov P) m + (if cov P m then 1 else 0) from rfl)
                  have SL := hide (show lastB (cov P) (m + 1) = (if cov P m then m + 1 else lastB (cov P) m) from rfl)
                  have n1 : ((cntB (cov P) m : Nat) : Int) ≤ 300 := by have := cntB_le (cov P) m; omega
                  have n0 : (0 : Int) ≤ ((cntB (cov P) m : Nat) : Int) := by omega
                  cases hc : cov P m with
                  | true =>
                    rw [hc] at SC SL q0
                    generalize hcm : ((cntB (cov P) m : Nat) : Int) = cm at *
                    generalize ((lastB (cov P) m : Nat) : Int) = lm at *
                    have HCM := hide hcm
                    clear hcm hc
                    go_wp2
                    go_round
                    case rel => exact ⟨m + 1, by omega, by go_num, by rw [SC.out, ← HCM.out]; rfl, by rw [SL.out]; rfl⟩
                    case measure => simp [intOf]; omega
                  | false =>
                    rw [hc] at SC SL q0
                    generalize hcm : ((cntB (cov P) m : Nat) : Int) = cm at *
                    generalize hlm : ((lastB (cov P) m : Nat) : Int) = lm at *
                    have HCM := hide hcm
                    have HLM := hide hlm
                    clear hcm hlm hc
                    go_wp2
                    go_round
                    case rel => exact ⟨m + 1, by omega, by go_num, by rw [SC.out, ← HCM.out]; rfl, by rw [SL.out, ← HLM.out]; rfl⟩
                    case measure => simp [intOf]; omega
                · obtain rfl : m = 300 := by omega
                  generalize ((cntB (cov P) 300 : Nat) : Int) = cm at *
                  generalize ((lastB (cov P) 300 : Nat) : Int) = lm at *
                  go_wp2_with fail
                  refine (TT.out _ _ A8.out.own.in.1).mono ?_
                  rintro e w9 ⟨rfl, f9⟩
                  have A9 := hide (A8.out.fresh f9)
                  clear f9
                  go_wp2_with fail
                  refine (TE.out _ _ A9.out.own.in.1).mono ?_
                  rintro e w10 ⟨rfl, f10⟩
                  have A10 := hide (A9.out.fresh f10)
                  clear f10
                  go_wp2_with fail
                  refine (TM.out _ _ A10.out.own.in.1).mono ?_
                  rintro e w11 ⟨rfl, f11⟩
                  have A11 := hide (A10.out.fresh f11)
                  clear f11
                  go_wp2
                  go_roundw
                  case rel => exact ⟨q + 1, I + 2, P, by have := HI.out; omega, by omega, by go_num, TP.out, A11.out⟩
                  case measure => simp [intOf]; omega
      · have g1 : (len : Int) ≤ (I : Int) + 1 := by omega
        go_wp2
        go_ret
        exact ⟨rfl, A.out.el⟩
  · have l0 : (40 : Int) < (len : Int) := by omega
    clear hrow
    go_enter Try.func4, Try.ntmps4
    go_wp2_with fail
    refine (begun8_true _).mono ?_
    rintro e w1 ⟨rfl, k1⟩
    have K1 := hide k1
    clear k1
    go_wp2
    go_ret
    exact ⟨rfl, K1.out⟩

set_option linter.unusedVariables false
set_option maxRecDepth 100000 in
theorem spanApart_lifted (os : Os) (started : os.Started) (H : Type) (enc : TypeId × Value → H) :
    ReturnsInHanded {} Try.checked os 4 .any (Rows.spanApartSpec.pre6 enc Try.prog Try.f4 Rows.spanApartRow.domain false) (Rows.spanApartSpec.post enc Try.prog Try.f4 false true false false) := by
  refine returnsInHanded_of_change (C := Try.checked) own started (by kernel_rfl) Try.func4
    (ChangeSpec.witness6 (enc := enc) (C := Try.checked) false ⟨#[], #[.slice none 0 0], []⟩ 8 (by kernel_rfl) (by kernel_rfl) (by kernel_rfl) (by kernel_rfl)) ?_
  intro W base args ds gs before hval0 hW hcnd _
  have hval : ∀ (j : Nat) t v, Try.f4.params[j]? = some t → args[j]? = some v → Value.okWide Try.prog W .any base t v := hval0
  have hW' := hW
  obtain ⟨p, q, hA0, hV, rfl, hfz, hnd⟩ := hW
  have hA : DataW.TrodAll enc Try.prog W 0 (fun _ => true) true Try.f4.params.toList args.toList ds p := hA0
  rw [Try.params4] at hA hval
  obtain ⟨v0, vs0, d0, ds0, p0, q0, hargs, rfl, rfl, h0, r0⟩ := trodAll_cons hA
  obtain ⟨rfl, rfl, rfl⟩ := trodAll_nil r0
  obtain rfl : args = #[v0] := by cases args; simp_all
  obtain ⟨rfl, rfl⟩ := trodVars_none hV
  have lt0 : ∀ x ∈ p0, x.block < W.heap.size := by obtain ⟨m, hm⟩ := h0; exact DataW.trod_lt m _ _ _ hm
  obtain ⟨a0, len0, cap0, rfl⟩ := okWide_slice Try.underlying22 (hval 0 22 v0 rfl rfl)
  obtain ⟨z0, w0⟩ := isRow_of Try.underlying22 Try.underlying5 (by kernel_rfl) h0
  clear hA0 hval0
  refine (spanApart_walk0 a0 len0 cap0 z0 W w0).mono fun e W' ⟨he, hg⟩ => ?_
  subst he
  exact ⟨_, rfl, _, _, _, [], _, [], hW', trodAll_mk1 (shut_bool Try.underlying4 _), (trodAll_cons_mk (Below.trod laidOut (by kernel_rfl) (of_decide_eq_true (by kernel_rfl)) h0 hg lt0) trodAll_mk0), rfl, hg.frame _, fun h => by cases h⟩

theorem spanApart_row : Rows.SpanApartSaid :=
  OpenClaim.holds_of_wide 4 Try.f4 rfl rfl rfl rfl rfl rfl rfl ⟨rfl, rfl, rfl, rfl, rfl⟩ rfl rfl rfl rfl rfl (by kernel_rfl) Try.func4 (by kernel_rfl)
    (of_decide_eq_true (by kernel_rfl)) (by unfold Func.isWrapper; first | (rw [if_pos (by decide +kernel)]; kernel_rfl) | (rw [if_neg (by decide +kernel)]; exact ⟨rfl, rfl⟩))
    (fun os started H enc _ => spanApart_lifted os started H enc)

theorem spanApart_holds : Rows.SpanApartSaid := spanApart_row
#print axioms spanApart_holds
end Go.Proofs.Ytcakghafjmdkoaa
