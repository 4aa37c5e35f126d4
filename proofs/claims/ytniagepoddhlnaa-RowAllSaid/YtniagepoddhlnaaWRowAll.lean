/- The walk of hodmanlaw4.RowAll, given what package row answers (RowSays). (This text was written by wip/tools/rowgen.py's help.) -/
import Derived.Test.YtniagepoddhlnaaRowLaw
import Derived.Test.YtniagepoddhlnaaRefRow
import Derived.Test.YtniagepoddhlnaaPlayWords
import Derived.Test.YtniagepoddhlnaaRefSet
import Derived.Deep.RegionHeld3
namespace Go.Proofs.Ytniagepoddhlnaa
open Go.ChangeShapes Go.WideShapes Go.ChangeAt Go.RowKit

def asA (x : Int) : Nat → Int
  | 0 => x
  | 1 => 64
  | 2 => 3
  | _ => 0
def bsA (y : Int) : Nat → Int
  | 0 => y
  | 1 => 70
  | 2 => 1
  | _ => 1099511627776
theorem asA_in (x : Int) (k : Nat) (h : -9223372036854775808 ≤ x) (h' : x ≤ 9223372036854775807) : -9223372036854775808 ≤ asA x k ∧ asA x k ≤ 9223372036854775807 := by
  unfold asA; split <;> omega
theorem bsA_in (y : Int) (k : Nat) (h : -9223372036854775808 ≤ y) (h' : y ≤ 9223372036854775807) : -9223372036854775808 ≤ bsA y k ∧ bsA y k ≤ 9223372036854775807 := by
  unfold bsA; split <;> omega
abbrev rows4 (w : World) (x y : Int) : World := (w.alloc (.cells #[.int .i64 x, .int .i64 64, .int .i64 3, .int .i64 0] 3)).alloc (.cells #[.int .i64 y, .int .i64 70, .int .i64 1, .int .i64 1099511627776] 3)
theorem rows4_as (w : World) (x y : Int) (k : Nat) (hk : k < 4) : (rows4 w x y).cell? ⟨w.heap.size, k, none⟩ = some (.int .i64 (asA x k)) := by
  match k, hk with
  | 0, _ => simp [rows4, asA]
  | 1, _ => simp [rows4, asA]
  | 2, _ => simp [rows4, asA]
  | 3, _ => simp [rows4, asA]
theorem rows4_bs (w : World) (x y : Int) (k : Nat) (hk : k < 4) : (rows4 w x y).cell? ⟨w.heap.size + 1, k, none⟩ = some (.int .i64 (bsA y k)) := by
  match k, hk with
  | 0, _ => simp [rows4, bsA]
  | 1, _ => simp [rows4, bsA]
  | 2, _ => simp [rows4, bsA]
  | 3, _ => simp [rows4, bsA]
theorem held_two {w1 w2 : World} {p q : Addr} {u v : Value} (h : Fresh w1 w2) (a : w1.cell? p = some u) (b : w1.cell? q = some v) : w2.cell? p = some u ∧ w2.cell? q = some v :=
  ⟨(h.cell (World.block_lt_of_cell? _ _ a)).trans a, (h.cell (World.block_lt_of_cell? _ _ b)).trans b⟩
theorem held_four {W w1 w2 : World} {p q : Addr} {u v l : Value} {ws : List Nat} (h : Fresh w1 w2) (a : w1.cell? p = some u) (b : w1.cell? q = some v) (c : WordsAt w1 l ws) (d : Fresh W w1) : w2.cell? p = some u ∧ w2.cell? q = some v ∧ WordsAt w2 l ws ∧ Fresh W w2 :=
  ⟨(h.cell (World.block_lt_of_cell? _ _ a)).trans a, (h.cell (World.block_lt_of_cell? _ _ b)).trans b, c.fresh h, d.trans h⟩
theorem held_drew {W w1 : World} {p q : Addr} {u v l : Value} {ws : List Nat} (a : w1.cell? p = some u) (b : w1.cell? q = some v) (c : WordsAt w1 l ws) (d : Fresh W w1) : w1.drew.cell? p = some u ∧ w1.drew.cell? q = some v ∧ WordsAt w1.drew l ws ∧ Fresh W w1.drew := ⟨a, b, c, Below.drew d⟩
theorem held_conj {W w1 w2 : World} {p q : Addr} {u v l : Value} {ws : List Nat} (h : Fresh w1 w2) (s : w1.cell? p = some u ∧ w1.cell? q = some v ∧ WordsAt w1 l ws ∧ Fresh W w1) : w2.cell? p = some u ∧ w2.cell? q = some v ∧ WordsAt w2 l ws ∧ Fresh W w2 := held_four h s.1 s.2.1 s.2.2.1 s.2.2.2
theorem heldW {W w1 : World} {p q : Addr} {u v l : Value} {ws : List Nat} (s : w1.cell? p = some u ∧ w1.cell? q = some v ∧ WordsAt w1 l ws ∧ Fresh W w1) : WordsAt w1 l ws := s.2.2.1
theorem rfirst_at (v : Value) (ws : List Nat) (s f X : Int) (P : Bool) (hX : (((firstW ws s f).getD 0 : Nat) : Int) = X) (hP : (firstW ws s f).isSome = P) (w : World) (h : WordsAt w v ws) (h1 : -9223372036854775808 ≤ s) (h2 : s ≤ 9223372036854775807) (h3 : -9223372036854775808 ≤ f) (h4 : f ≤ 9223372036854775807) :
    Calls Try.prog 11 #[v, .int .i64 s, .int .i64 f] w fun e w' => e = .returned (.tuple #[.int .i64 X, .bool P]) ∧ Fresh w w' := by
  have := rfirst_any v ws s f w h h1 h2 h3 h4
  unfold foundV at this
  rw [hX, hP] at this
  exact this.mono fun e w' ⟨he, hw⟩ => ⟨he, by rw [hw]; exact Fresh.refl _⟩
theorem rhas_to (v : Value) (ws : List Nat) (i : Int) (b : Bool) (hr : hasW ws i = b) (w : World) (h : WordsAt w v ws) (h1 : -9223372036854775808 ≤ i) (h2 : i ≤ 9223372036854775807) :
    Calls Try.prog 13 #[v, .int .i64 i] w fun e w' => e = .returned (.bool b) ∧ Fresh w w' := by
  subst hr
  exact (rhas_any v ws i w h h1 h2).mono fun e w' ⟨he, hw⟩ => ⟨he, by rw [hw]; exact Fresh.refl _⟩
theorem rset_to (v : Value) (ws : List Nat) (f n : Int) (on : Bool) (us : List Nat) (hr : setW ws f n on = us) (w : World) (h : WordsAt w v ws) (h1 : -9223372036854775808 ≤ f) (h2 : f ≤ 9223372036854775807) (h3 : -9223372036854775808 ≤ n) (h4 : n ≤ 9223372036854775807) :
    Calls Try.prog 16 #[v, .int .i64 f, .int .i64 n, .bool on] w fun e w' => ∃ v', e = .returned v' ∧ WordsAt w' v' us ∧ Fresh w w' := by
  subst hr
  have h0 := h
  obtain ⟨_, _, _, hl, h64, _⟩ := h
  refine (rset_any v ws f n on w h0 h1 h2 h3 h4).mono fun e w' ⟨v', he, ho, hb⟩ => ⟨v', he, ho.at (setW_64 h64 f n on) (by rw [setW_length]; exact hl), hb⟩
theorem rsame_fresh (v u : Value) (xs ys : List Nat) (b : Bool) (hb : decide (xs = ys) = b) (w : World) (h : WordsAt w v xs) (k : WordsAt w u ys) :
    Calls Try.prog 14 #[v, u] w fun e w' => e = .returned (.bool b) ∧ Fresh w w' :=
  (rsame_to v u xs ys b hb w h k).mono fun e w' ⟨he, n, hw⟩ => ⟨he, by rw [hw]; exact Fresh.drewN w n⟩
theorem rcount_to (v : Value) (ws : List Nat) (f n c : Int) (hr : (cntW ws f n : Int) = c) (w : World) (h : WordsAt w v ws) (h1 : -9223372036854775808 ≤ f) (h2 : f ≤ 9223372036854775807) (h3 : -9223372036854775808 ≤ n) (h4 : n ≤ 9223372036854775807) :
    Calls Try.prog 18 #[v, .int .i64 f, .int .i64 n] w fun e w' => e = .returned (.int .i64 c) ∧ Fresh w w' := by
  subst hr
  exact (rcount_any v ws f n w h h1 h2 h3 h4).mono fun e w' ⟨he, hw⟩ => ⟨he, by rw [hw]; exact Fresh.refl _⟩
theorem rnew_to (size : Int) (w : World) (h1 : -9223372036854775808 ≤ size) (h2 : size ≤ 10000) :
    Calls Try.prog 20 #[.int .i64 size] w fun e w' => ∃ v, e = .returned v ∧ WordsAt w' v (newW size) ∧ Fresh w w' :=
  (rnew_any size w h1 (by omega)).mono fun e w' ⟨v, he, ho, hb⟩ => ⟨v, he, ho.at (fun u hu => by unfold newW at hu; have := List.eq_of_mem_replicate hu; omega) (by unfold newW; rw [List.length_replicate]; omega), hb⟩
theorem RowSays.first_at (R : RowSays) (v : Value) (ws : List Nat) (s f X : Int) (P : Bool) (hX : (((firstW ws s f).getD 0 : Nat) : Int) = X) (hP : (firstW ws s f).isSome = P) (w : World) (h : WordsAt w v ws) (h1 : -9223372036854775808 ≤ s) (h2 : s ≤ 9223372036854775807) (h3 : -9223372036854775808 ≤ f) (h4 : f ≤ 9223372036854775807) :
    Calls Try.prog 10 #[v, .int .i64 s, .int .i64 f] w fun e w' => e = .returned (.tuple #[.int .i64 X, .bool P]) ∧ Fresh w w' := by
  have := R.first v ws s f w h h1 h2 h3 h4
  unfold foundE at this
  rwa [hX, hP] at this

set_option maxRecDepth 100000 in
set_option maxHeartbeats 4000000 in
theorem rowAll_walk0 (R : RowSays) (a : Option Addr) (len cap : Nat) (zs : List Int) (x : Int) (hx : -9223372036854775808 ≤ x) (hx' : x ≤ 9223372036854775807) (y : Int) (hy : -9223372036854775808 ≤ y) (hy' : y ≤ 9223372036854775807) (c : Int) (hc : -9223372036854775808 ≤ c) (hc' : c ≤ 9223372036854775807) (on : Bool) (w : World) (hrow : IsRow .u8 w a len cap zs) :
    Calls Try.prog 3 #[.slice a len cap, .int .i64 x, .int .i64 y, .int .i64 c, .bool on] w fun e w' => e = .returned (.bool true) ∧ Fresh w w' := by
  have RR := hide R
  obtain ⟨hb, hl, hm⟩ := bytes_in hrow
  have HB := hide hb
  have HL := hide hl
  clear R hrow hb hl
  by_cases h100 : len ≤ 100 ∧ c ≤ 10000
  · obtain ⟨l0, c0⟩ := h100
    have l1 : (len : Int) ≤ 100 := by omega
    go_enter Try.func3, Try.ntmps3
    go_wp2_with fail
    refine (begun4_true RR.out _).mono ?_
    rintro e w1 ⟨rfl, k1⟩
    have K1 := hide k1
    clear k1
    go_wp2_with fail
    refine (words_any a len cap (zs.take len) _ (HB.out.fresh K1.out) HL.out (by omega)).mono ?_
    rintro e w2 ⟨v2, ws, rfl, o2, h64, hlen, k2⟩
    have Hl2 := hide (o2.at h64 (by omega))
    have A64 := hide h64
    have kk : Fresh w1 w2 := k2
    clear k2 h64
    obtain ⟨a2, c2, rfl, -⟩ := Hl2.out
    clear o2
    have K2 := hide (K1.out.trans kk)
    clear kk K1
    go_wp2
    generalize hW : World.alloc (World.alloc w2 _) _ = W
    have CA : Hid (∀ k, k < 4 → W.cell? ⟨w2.heap.size, k, none⟩ = some (.int .i64 (asA x k))) := by subst hW; exact rows4_as w2 x y
    have CB : Hid (∀ k, k < 4 → W.cell? ⟨w2.heap.size + 1, k, none⟩ = some (.int .i64 (bsA y k))) := by subst hW; exact rows4_bs w2 x y
    have kW : Fresh w2 W := by subst hW; exact (((Below.refl _ w2).alloc (Nat.le_refl _) _).alloc (by simp) _)
    clear hW
    have K3 := hide (K2.out.trans kW)
    have Hl3 := hide (Hl2.out.fresh kW)
    clear kW K2 Hl2
    generalize w2.heap.size = z at *
    go_loopw [14] (fun j w3 => ∃ k : Nat, k ≤ 4 ∧ j = .int .i64 (k : Int) ∧ Fresh W w3) (fun j _ => (4 - intOf j).toNat)
    case atStart => exact ⟨0, by omega, rfl, Fresh.refl _⟩
    case round =>
      obtain ⟨k, hk, rfl, hF⟩ := hrel
      have HL2 := hide (Hl3.out.fresh hF)
      have KF := hide hF
      by_cases hk4 : k < 4
      · have hA : wr.cell? ⟨z, k, none⟩ = some (.int .i64 (asA x k)) := (hF.cell (World.block_lt_of_cell? _ _ (CA.out k hk4))).trans (CA.out k hk4)
        have hB : wr.cell? ⟨z + 1, k, none⟩ = some (.int .i64 (bsA y k)) := (hF.cell (World.block_lt_of_cell? _ _ (CB.out k hk4))).trans (CB.out k hk4)
        obtain ⟨A1, A2⟩ := asA_in x k hx hx'
        obtain ⟨B1, B2⟩ := bsA_in y k hy hy'
        generalize asA x k = A at *
        generalize bsA y k = B at *
        have k0 : (0 : Int) ≤ (k : Int) := by omega
        have k4 : (k : Int) < 4 := by omega
        clear hF
        have C1 := hide (fun (w1 w2 : World) (h : Fresh w1 w2) (a : w1.cell? ⟨z, k, none⟩ = some (.int .i64 A)) (b : w1.cell? ⟨z + 1, k, none⟩ = some (.int .i64 B)) => held_two h a b)
        obtain ⟨X, hX⟩ : ∃ X : Int, (((firstW ws B A).getD 0 : Nat) : Int) = X := ⟨_, rfl⟩
        obtain ⟨P, hP⟩ : ∃ P : Bool, (firstW ws B A).isSome = P := ⟨_, rfl⟩
        have HX := hide hX
        have HP := hide hP
        clear hX hP
        obtain ⟨H1, hH⟩ : ∃ H1 : Bool, hasW ws A = H1 := ⟨_, rfl⟩
        obtain ⟨C, hC⟩ : ∃ C : Int, ((cntW ws A B : Nat) : Int) = C := ⟨_, rfl⟩
        obtain ⟨us, hU⟩ : ∃ us : List Nat, setW ws A B on = us := ⟨_, rfl⟩
        have HH := hide hH
        have HC := hide hC
        have US := hide hU
        clear hH hC hU
        go_wp2_with fail
        have hL := HL2.out
        have hK := KF.out
        go_region_held3 (fun w' => w'.cell? ⟨z, k, none⟩ = some (.int .i64 A) ∧ w'.cell? ⟨z + 1, k, none⟩ = some (.int .i64 B) ∧ WordsAt w' (.slice a2 ws.length c2) ws ∧ Fresh W w') (first | (exact held_drew (by assumption) (by assumption) (by assumption) (by assumption)) | (exact held_conj (by assumption) (by assumption)) | (exact held_four (by assumption) (by assumption) (by assumption) (by assumption) (by assumption)) | go_keep) ((go_at_call 10; refine (RR.out.first_at _ ws B A X P HX.out HP.out _ (by assumption) B1 B2 A1 A2).mono ?_; rintro e w5 ⟨rfl, k5⟩))
        clear hA hB hL hK
        have hS : w5.cell? ⟨z, k, none⟩ = some (.int .i64 A) ∧ w5.cell? ⟨z + 1, k, none⟩ = some (.int .i64 B) ∧ WordsAt w5 (.slice a2 ws.length c2) ws ∧ Fresh W w5 := by assumption
        obtain ⟨hA, hB, hL, hK⟩ := hS
        go_wp2_with fail
        go_region_held3 (fun w' => w'.cell? ⟨z, k, none⟩ = some (.int .i64 A) ∧ w'.cell? ⟨z + 1, k, none⟩ = some (.int .i64 B) ∧ WordsAt w' (.slice a2 ws.length c2) ws ∧ Fresh W w') (first | (exact held_drew (by assumption) (by assumption) (by assumption) (by assumption)) | (exact held_conj (by assumption) (by assumption)) | (exact held_four (by assumption) (by assumption) (by assumption) (by assumption) (by assumption)) | go_keep) ((go_at_call 11; refine (rfirst_at _ ws B A X P HX.out HP.out _ (by assumption) B1 B2 A1 A2).mono ?_; rintro e w6 ⟨rfl, k6⟩))
        clear hA hB hL hK
        have hS : w6.cell? ⟨z, k, none⟩ = some (.int .i64 A) ∧ w6.cell? ⟨z + 1, k, none⟩ = some (.int .i64 B) ∧ WordsAt w6 (.slice a2 ws.length c2) ws ∧ Fresh W w6 := by assumption
        obtain ⟨hA, hB, hL, hK⟩ := hS
        go_wp2_with fail
        dsimp only [List.append]
        go_region_held3 (fun w' => w'.cell? ⟨z, k, none⟩ = some (.int .i64 A) ∧ w'.cell? ⟨z + 1, k, none⟩ = some (.int .i64 B) ∧ WordsAt w' (.slice a2 ws.length c2) ws ∧ Fresh W w') (first | (exact held_drew (by assumption) (by assumption) (by assumption) (by assumption)) | (exact held_conj (by assumption) (by assumption)) | (exact held_four (by assumption) (by assumption) (by assumption) (by assumption) (by assumption)) | go_keep) (first | (go_at_call 12; refine (RR.out.has_to _ ws A H1 HH.out _ (by assumption) A1 A2).mono ?_; rintro e w7 ⟨rfl, k7⟩) | (go_at_call 13; refine (rhas_to _ ws A H1 HH.out _ (heldW (by assumption)) A1 A2).mono ?_; rintro e w8 ⟨rfl, k8⟩) | (go_at_call 15; refine (RR.out.set_to _ ws A B on us US.out _ (heldW (by assumption)) A1 A2 B1 B2).mono ?_; rintro e w9 ⟨v9, rfl, h9, k9⟩) | (go_at_call 16; refine (rset_to _ ws A B on us US.out _ (heldW (by assumption)) A1 A2 B1 B2).mono ?_; rintro e wa ⟨va, rfl, ha, ka⟩) | (go_at_call 14; refine (rsame_fresh _ _ us us true (by simp) _ (h9.fresh ka) ha).mono ?_; rintro e wb ⟨rfl, kb⟩) | (go_at_call 17; refine (RR.out.count_to _ ws A B C HC.out _ (heldW (by assumption)) A1 A2 B1 B2).mono ?_; rintro e wc ⟨rfl, kc⟩) | (go_at_call 18; refine (rcount_to _ ws A B C HC.out _ (heldW (by assumption)) A1 A2 B1 B2).mono ?_; rintro e wd ⟨rfl, kd⟩))
        clear hA hB hL hK
        have hS : wd.cell? ⟨z, k, none⟩ = some (.int .i64 A) ∧ wd.cell? ⟨z + 1, k, none⟩ = some (.int .i64 B) ∧ WordsAt wd (.slice a2 ws.length c2) ws ∧ Fresh W wd := by assumption
        obtain ⟨hA, hB, hL, hK⟩ := hS
        have KD := hide hK
        clear hA hB hL hK k5 k6 k7 k8 k9 h9 ka ha kb kc kd
        go_wp2
        go_roundw
        case rel => exact ⟨k + 1, by omega, by go_num, KD.out⟩
        case measure => simp [intOf]; omega
      · obtain rfl : k = 4 := by omega
        clear hF
        go_wp2_with fail
        refine (RR.out.new c _ hc (by omega)).mono ?_
        rintro e w5 ⟨v5, rfl, h5, k5⟩
        have H5 := hide h5
        have K5 := hide (KF.out.trans k5)
        clear h5 k5
        go_wp2_with fail
        refine (rnew_to c _ hc (by omega)).mono ?_
        rintro e w6 ⟨v6, rfl, h6, k6⟩
        have H6 := hide h6
        have H56 := hide (H5.out.fresh k6)
        have K6 := hide (K5.out.trans k6)
        clear h6 k6 H5 K5
        go_wp2_with fail
        refine (rsame_fresh _ _ _ _ true (by simp) _ H56.out H6.out).mono ?_
        rintro e w7 ⟨rfl, k7⟩
        have K7 := hide (K6.out.trans k7)
        clear k7 K6 H6 H56
        go_wp2
        go_ret
        exact ⟨rfl, K3.out.trans K7.out⟩
  · by_cases hl : len ≤ 100
    · have l1 : (len : Int) ≤ 100 := by omega
      have l2 : 10000 < c := by omega
      clear h100
      go_enter Try.func3, Try.ntmps3
      go_wp2_with fail
      refine (begun4_true RR.out _).mono ?_
      rintro e w1 ⟨rfl, k1⟩
      have K1 := hide k1
      clear k1
      go_wp2
      go_ret
      exact ⟨rfl, K1.out⟩
    · have l1 : (100 : Int) < (len : Int) := by omega
      clear h100
      go_enter Try.func3, Try.ntmps3
      go_wp2_with fail
      refine (begun4_true RR.out _).mono ?_
      rintro e w1 ⟨rfl, k1⟩
      have K1 := hide k1
      clear k1
      go_wp2
      go_ret
      exact ⟨rfl, K1.out⟩
end Go.Proofs.Ytniagepoddhlnaa
