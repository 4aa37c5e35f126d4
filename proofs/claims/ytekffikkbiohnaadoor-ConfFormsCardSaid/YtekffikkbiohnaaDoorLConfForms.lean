/- Proved here: hodmanlaw2.ConfForms, called in any memory in which the library's table math/bits.deBruijn64tab lies as its initialiser lays it, returns true: what the program's conf.Of tells of the requests that the statement names is what promise P2.1 asks. No condition besides. -/
import Derived.Test.YtekffikkbiohnaaDoorLawB
import Derived.Test.YtekffikkbiohnaaDoorCards
import Derived.Test.YtekffikkbiohnaaDoorTie
namespace Go.Proofs.YtekffikkbiohnaaDoor
open Go.ChangeShapes Go.WideShapes Go.ChangeAt Go.RowKit

abbrev rawsO : Obj := .cells #[.int .i64 3, .int .i64 5, .int .i64 1, .int .i64 1, .int .i64 0, .int .i64 255, .int .i64 8, .int .i64 1, .int .i64 100, .int .i64 100, .int .i64 7, .int .i64 0, .int .i64 1, .int .i64 1, .int .i64 65536, .int .i64 1, .int .i64 0, .int .i64 0, .int .i64 16, .int .i64 256, .int .i64 4096, .int .i64 512, .int .i64 65536, .int .i64 0] 23
abbrev wantO : Obj := .cells #[.int .i64 4, .int .i64 8, .int .i64 16, .int .i64 1, .int .i64 4, .int .i64 0, .int .i64 24, .int .i64 255, .int .i64 8, .int .i64 8, .int .i64 256, .int .i64 0, .int .i64 128, .int .i64 7, .int .i64 256, .int .i64 0, .int .i64 1, .int .i64 1, .int .i64 65536, .int .i64 0, .int .i64 1, .int .i64 0, .int .i64 65536, .int .i64 0, .int .i64 16, .int .i64 256, .int .i64 4096, .int .i64 4, .int .i64 512, .int .i64 65536, .int .i64 12288, .int .i64 0] 31
abbrev badO : Obj := .cells #[.int .i64 0, .int .i64 1, .int .i64 1, .int .i64 1, .int .i64 0, .int .i64 0, .int .i64 1, .int .i64 0, .int .i64 1, .int .i64 1, .int .i64 0, .int .i64 0, .int .i64 1, .int .i64 1, .int .i64 0, .int .i64 1, .int .i64 0, .int .i64 0, .int .i64 1, .int .i64 1, .int .i64 1, .int .i64 0, .int .i64 0, .int .i64 0, .int .i64 (-1), .int .i64 1, .int .i64 1, .int .i64 1, .int .i64 0, .int .i64 0, .int .i64 65537, .int .i64 1, .int .i64 1, .int .i64 1, .int .i64 0, .int .i64 0, .int .i64 1, .int .i64 4611686018427387904, .int .i64 1, .int .i64 1, .int .i64 0, .int .i64 0, .int .i64 1, .int .i64 1, .int .i64 1, .int .i64 1, .int .i64 (-1), .int .i64 0, .int .i64 1, .int .i64 1, .int .i64 1, .int .i64 1, .int .i64 0, .int .i64 256, .int .i64 1, .int .i64 1, .int .i64 1, .int .i64 1, .int .i64 65537, .int .i64 0, .int .i64 1, .int .i64 2, .int .i64 65536, .int .i64 1, .int .i64 0, .int .i64 0, .int .i64 1, .int .i64 40000, .int .i64 1, .int .i64 1, .int .i64 0, .int .i64 0, .int .i64 1, .int .i64 1, .int .i64 1, .int .i64 1, .int .i64 0, .int .i64 (-1)] 23
def rawAt : Nat → Rw
  | 0 => ⟨3, 5, 1, 1, 0, 255⟩
  | 1 => ⟨8, 1, 100, 100, 7, 0⟩
  | 2 => ⟨1, 1, 65536, 1, 0, 0⟩
  | 3 => ⟨16, 256, 4096, 512, 65536, 0⟩
  | _ => ⟨0, 0, 0, 0, 0, 0⟩
def wantAt : Nat → Cf
  | 0 => ⟨4, 8, 16, 1, 4, 0, 24, 255⟩
  | 1 => ⟨8, 8, 256, 0, 128, 7, 256, 0⟩
  | 2 => ⟨1, 1, 65536, 0, 1, 0, 65536, 0⟩
  | 3 => ⟨16, 256, 4096, 4, 512, 65536, 12288, 0⟩
  | _ => ⟨0, 0, 0, 0, 0, 0, 0, 0⟩
def badAt : Nat → Rw
  | 0 => ⟨0, 1, 1, 1, 0, 0⟩
  | 1 => ⟨1, 0, 1, 1, 0, 0⟩
  | 2 => ⟨1, 1, 0, 1, 0, 0⟩
  | 3 => ⟨1, 1, 1, 0, 0, 0⟩
  | 4 => ⟨-1, 1, 1, 1, 0, 0⟩
  | 5 => ⟨65537, 1, 1, 1, 0, 0⟩
  | 6 => ⟨1, 4611686018427387904, 1, 1, 0, 0⟩
  | 7 => ⟨1, 1, 1, 1, -1, 0⟩
  | 8 => ⟨1, 1, 1, 1, 0, 256⟩
  | 9 => ⟨1, 1, 1, 1, 65537, 0⟩
  | 10 => ⟨1, 2, 65536, 1, 0, 0⟩
  | 11 => ⟨1, 40000, 1, 1, 0, 0⟩
  | 12 => ⟨1, 1, 1, 1, 0, -1⟩
  | _ => ⟨0, 0, 0, 0, 0, 0⟩
theorem raws_has (w : World) (k : Nat) (hk : k < 4) : HasR (w.alloc rawsO) w.heap.size (6 * k) (rawAt k) := by
  match k, hk with
  | 0, _ => simp [HasR, rawAt]
  | 1, _ => simp [HasR, rawAt]
  | 2, _ => simp [HasR, rawAt]
  | 3, _ => simp [HasR, rawAt]
theorem want_has (w : World) (k : Nat) (hk : k < 4) : HasC (w.alloc wantO) w.heap.size (8 * k) (wantAt k) := by
  match k, hk with
  | 0, _ => simp [HasC, wantAt]
  | 1, _ => simp [HasC, wantAt]
  | 2, _ => simp [HasC, wantAt]
  | 3, _ => simp [HasC, wantAt]
theorem bad_has (w : World) (k : Nat) (hk : k < 13) : HasR (w.alloc badO) w.heap.size (6 * k) (badAt k) := by
  match k, hk with
  | 0, _ => simp [HasR, badAt]
  | 1, _ => simp [HasR, badAt]
  | 2, _ => simp [HasR, badAt]
  | 3, _ => simp [HasR, badAt]
  | 4, _ => simp [HasR, badAt]
  | 5, _ => simp [HasR, badAt]
  | 6, _ => simp [HasR, badAt]
  | 7, _ => simp [HasR, badAt]
  | 8, _ => simp [HasR, badAt]
  | 9, _ => simp [HasR, badAt]
  | 10, _ => simp [HasR, badAt]
  | 11, _ => simp [HasR, badAt]
  | 12, _ => simp [HasR, badAt]

set_option maxRecDepth 100000 in
set_option maxHeartbeats 8000000 in
theorem confForms_walk (w : World) (hT : Tab w) : Calls Tryd.prog 5 #[] w fun e w' => e = .returned (.bool true) ∧ Grown w w' := by
  go_enter Tryd.func5, Tryd.ntmps5
  go_wp2_with fail
  refine (begun_true _ hT).mono ?_
  rintro e w1 ⟨rfl, k1⟩
  go_wp2
  have h1 : Hid (∀ k, k < 4 → HasR ((w1.alloc rawsO).alloc wantO) w1.heap.size (6 * k) (rawAt k)) := fun k hk => (raws_has w1 k hk).kept ((Kept.refl _).alloc _ _)
  have h2 : Hid (∀ k, k < 4 → HasC ((w1.alloc rawsO).alloc wantO) (w1.heap.size + 1) (8 * k) (wantAt k)) := fun k hk => (show (w1.alloc rawsO).heap.size = w1.heap.size + 1 by simp) ▸ want_has (w1.alloc rawsO) k hk
  have h3 : Hid (Kept w ((w1.alloc rawsO).alloc wantO)) := (k1.alloc _ _).alloc _ _
  have hn : Hid (w1.heap.size + 1 < ((w1.alloc rawsO).alloc wantO).heap.size) := by show _ < _; simp
  generalize (w1.alloc rawsO).alloc wantO = W at *
  clear k1
  go_loopw [3] (fun i w2 => ∃ k : Nat, k ≤ 4 ∧ i = .int .i64 k ∧ Kept W w2) (fun i _ => (4 - intOf i).toNat)
  case atStart => exact ⟨0, Nat.zero_le _, rfl, Kept.refl _⟩
  case round =>
    obtain ⟨k, hk, rfl, hK⟩ := hrel
    by_cases hlt : k < 4
    · have r1 := (h1.out k hlt).kept hK
      have r2 := hide ((h2.out k hlt).kept hK)
      have HK := hide hK
      have HT := hide (hT.kept (h3.out.trans hK))
      have hn2 := hide (show w1.heap.size + 1 < wr.heap.size by have := hn.out; have := hK.1.size; omega)
      clear hK
      rcases (show k = 0 ∨ k = 1 ∨ k = 2 ∨ k = 3 by omega) with rfl | rfl | rfl | rfl
      · obtain ⟨x0, x1, x2, x3, x4, x5⟩ := r1
        simp only [rawAt, Nat.reduceMul, Nat.zero_add] at x0 x1 x2 x3 x4 x5
        go_wp2_with fail
        refine (of_to ⟨3, 5, 1, 1, 0, 255⟩ ⟨4, 8, 16, 1, 4, 0, 24, 255⟩ 0 (by kernel_rfl) (by kernel_rfl) _ HT.out).mono ?_
        rintro e w3 ⟨rfl, k3⟩
        obtain ⟨y0, y1, y2, y3, y4, y5, y6, y7⟩ := r2.out.kept k3
        simp only [wantAt, Nat.reduceMul, Nat.zero_add] at y0 y1 y2 y3 y4 y5 y6 y7
        have hn3 : w1.heap.size + 1 < w3.heap.size := by have := hn2.out; have := k3.1.size; omega
        have K3 := hide (HK.out.trans k3)
        clear x0 x1 x2 x3 x4 x5 k3
        go_wp2_with fail
        go_quiet (fail)
        go_wp2
        go_roundw
        case rel => exact ⟨1, by omega, by go_num, (K3.out.alloc _ _).drewN _⟩
        case measure => simp [intOf]
      · obtain ⟨x0, x1, x2, x3, x4, x5⟩ := r1
        simp only [rawAt, Nat.reduceMul, Nat.reduceAdd] at x0 x1 x2 x3 x4 x5
        go_wp2_with fail
        refine (of_to ⟨8, 1, 100, 100, 7, 0⟩ ⟨8, 8, 256, 0, 128, 7, 256, 0⟩ 0 (by kernel_rfl) (by kernel_rfl) _ HT.out).mono ?_
        rintro e w3 ⟨rfl, k3⟩
        obtain ⟨y0, y1, y2, y3, y4, y5, y6, y7⟩ := r2.out.kept k3
        simp only [wantAt, Nat.reduceMul, Nat.reduceAdd] at y0 y1 y2 y3 y4 y5 y6 y7
        have hn3 : w1.heap.size + 1 < w3.heap.size := by have := hn2.out; have := k3.1.size; omega
        have K3 := hide (HK.out.trans k3)
        clear x0 x1 x2 x3 x4 x5 k3
        go_wp2_with fail
        go_quiet (fail)
        go_wp2
        go_roundw
        case rel => exact ⟨2, by omega, by go_num, (K3.out.alloc _ _).drewN _⟩
        case measure => simp [intOf]
      · obtain ⟨x0, x1, x2, x3, x4, x5⟩ := r1
        simp only [rawAt, Nat.reduceMul, Nat.reduceAdd] at x0 x1 x2 x3 x4 x5
        go_wp2_with fail
        refine (of_to ⟨1, 1, 65536, 1, 0, 0⟩ ⟨1, 1, 65536, 0, 1, 0, 65536, 0⟩ 0 (by kernel_rfl) (by kernel_rfl) _ HT.out).mono ?_
        rintro e w3 ⟨rfl, k3⟩
        obtain ⟨y0, y1, y2, y3, y4, y5, y6, y7⟩ := r2.out.kept k3
        simp only [wantAt, Nat.reduceMul, Nat.reduceAdd] at y0 y1 y2 y3 y4 y5 y6 y7
        have hn3 : w1.heap.size + 1 < w3.heap.size := by have := hn2.out; have := k3.1.size; omega
        have K3 := hide (HK.out.trans k3)
        clear x0 x1 x2 x3 x4 x5 k3
        go_wp2_with fail
        go_quiet (fail)
        go_wp2
        go_roundw
        case rel => exact ⟨3, by omega, by go_num, (K3.out.alloc _ _).drewN _⟩
        case measure => simp [intOf]
      · obtain ⟨x0, x1, x2, x3, x4, x5⟩ := r1
        simp only [rawAt, Nat.reduceMul, Nat.reduceAdd] at x0 x1 x2 x3 x4 x5
        go_wp2_with fail
        refine (of_to ⟨16, 256, 4096, 512, 65536, 0⟩ ⟨16, 256, 4096, 4, 512, 65536, 12288, 0⟩ 0 (by kernel_rfl) (by kernel_rfl) _ HT.out).mono ?_
        rintro e w3 ⟨rfl, k3⟩
        obtain ⟨y0, y1, y2, y3, y4, y5, y6, y7⟩ := r2.out.kept k3
        simp only [wantAt, Nat.reduceMul, Nat.reduceAdd] at y0 y1 y2 y3 y4 y5 y6 y7
        have hn3 : w1.heap.size + 1 < w3.heap.size := by have := hn2.out; have := k3.1.size; omega
        have K3 := hide (HK.out.trans k3)
        clear x0 x1 x2 x3 x4 x5 k3
        go_wp2_with fail
        go_quiet (fail)
        go_wp2
        go_roundw
        case rel => exact ⟨4, by omega, by go_num, (K3.out.alloc _ _).drewN _⟩
        case measure => simp [intOf]
    · obtain rfl : k = 4 := by omega
      have HK := hide (h3.out.trans hK)
      clear hK h1 h2 h3 hn
      go_wp2
      have h1 : Hid (∀ k, k < 13 → HasR (wr.alloc badO) wr.heap.size (6 * k) (badAt k)) := fun k hk => bad_has wr k hk
      have h3 : Hid (Kept w (wr.alloc badO)) := HK.out.alloc _ _
      generalize hW : wr.alloc badO = W2 at *
      clear hW HK
      generalize wr.heap.size = n at *
      go_loopw [7] (fun i w2 => ∃ k : Nat, k ≤ 13 ∧ i = .int .i64 k ∧ Kept W2 w2) (fun i _ => (13 - intOf i).toNat)
      case atStart => exact ⟨0, Nat.zero_le _, rfl, Kept.refl _⟩
      case round =>
        obtain ⟨k, hk, rfl, hK⟩ := hrel
        by_cases hlt : k < 13
        · have r1 := (h1.out k hlt).kept hK
          have HK := hide hK
          have HT := hide (hT.kept (h3.out.trans hK))
          clear hK
          rcases (show k = 0 ∨ k = 1 ∨ k = 2 ∨ k = 3 ∨ k = 4 ∨ k = 5 ∨ k = 6 ∨ k = 7 ∨ k = 8 ∨ k = 9 ∨ k = 10 ∨ k = 11 ∨ k = 12 by omega) with rfl | rfl | rfl | rfl | rfl | rfl | rfl | rfl | rfl | rfl | rfl | rfl | rfl
          · obtain ⟨x0, x1, x2, x3, x4, x5⟩ := r1
            simp only [badAt, Nat.reduceMul, Nat.zero_add] at x0 x1 x2 x3 x4 x5
            go_wp2_with fail
            refine (of_to ⟨0, 1, 1, 1, 0, 0⟩ ⟨0, 0, 0, 0, 0, 0, 0, 0⟩ 1 (by kernel_rfl) (by kernel_rfl) _ HT.out).mono ?_
            rintro e w3 ⟨rfl, k3⟩
            have K3 := hide (HK.out.trans k3)
            clear x0 x1 x2 x3 x4 x5 k3
            go_wp2
            go_roundw
            case rel => (repeat apply Exists.intro); exact ⟨⟨1, by omega, by go_num, K3.out.alloc _ _⟩, rfl⟩
            case measure => simp [intOf]
          · obtain ⟨x0, x1, x2, x3, x4, x5⟩ := r1
            simp only [badAt, Nat.reduceMul, Nat.reduceAdd] at x0 x1 x2 x3 x4 x5
            go_wp2_with fail
            refine (of_to ⟨1, 0, 1, 1, 0, 0⟩ ⟨0, 0, 0, 0, 0, 0, 0, 0⟩ 1 (by kernel_rfl) (by kernel_rfl) _ HT.out).mono ?_
            rintro e w3 ⟨rfl, k3⟩
            have K3 := hide (HK.out.trans k3)
            clear x0 x1 x2 x3 x4 x5 k3
            go_wp2
            go_roundw
            case rel => (repeat apply Exists.intro); exact ⟨⟨2, by omega, by go_num, K3.out.alloc _ _⟩, rfl⟩
            case measure => simp [intOf]
          · obtain ⟨x0, x1, x2, x3, x4, x5⟩ := r1
            simp only [badAt, Nat.reduceMul, Nat.reduceAdd] at x0 x1 x2 x3 x4 x5
            go_wp2_with fail
            refine (of_to ⟨1, 1, 0, 1, 0, 0⟩ ⟨0, 0, 0, 0, 0, 0, 0, 0⟩ 1 (by kernel_rfl) (by kernel_rfl) _ HT.out).mono ?_
            rintro e w3 ⟨rfl, k3⟩
            have K3 := hide (HK.out.trans k3)
            clear x0 x1 x2 x3 x4 x5 k3
            go_wp2
            go_roundw
            case rel => (repeat apply Exists.intro); exact ⟨⟨3, by omega, by go_num, K3.out.alloc _ _⟩, rfl⟩
            case measure => simp [intOf]
          · obtain ⟨x0, x1, x2, x3, x4, x5⟩ := r1
            simp only [badAt, Nat.reduceMul, Nat.reduceAdd] at x0 x1 x2 x3 x4 x5
            go_wp2_with fail
            refine (of_to ⟨1, 1, 1, 0, 0, 0⟩ ⟨0, 0, 0, 0, 0, 0, 0, 0⟩ 1 (by kernel_rfl) (by kernel_rfl) _ HT.out).mono ?_
            rintro e w3 ⟨rfl, k3⟩
            have K3 := hide (HK.out.trans k3)
            clear x0 x1 x2 x3 x4 x5 k3
            go_wp2
            go_roundw
            case rel => (repeat apply Exists.intro); exact ⟨⟨4, by omega, by go_num, K3.out.alloc _ _⟩, rfl⟩
            case measure => simp [intOf]
          · obtain ⟨x0, x1, x2, x3, x4, x5⟩ := r1
            simp only [badAt, Nat.reduceMul, Nat.reduceAdd] at x0 x1 x2 x3 x4 x5
            go_wp2_with fail
            refine (of_to ⟨-1, 1, 1, 1, 0, 0⟩ ⟨0, 0, 0, 0, 0, 0, 0, 0⟩ 1 (by kernel_rfl) (by kernel_rfl) _ HT.out).mono ?_
            rintro e w3 ⟨rfl, k3⟩
            have K3 := hide (HK.out.trans k3)
            clear x0 x1 x2 x3 x4 x5 k3
            go_wp2
            go_roundw
            case rel => (repeat apply Exists.intro); exact ⟨⟨5, by omega, by go_num, K3.out.alloc _ _⟩, rfl⟩
            case measure => simp [intOf]
          · obtain ⟨x0, x1, x2, x3, x4, x5⟩ := r1
            simp only [badAt, Nat.reduceMul, Nat.reduceAdd] at x0 x1 x2 x3 x4 x5
            go_wp2_with fail
            refine (of_to ⟨65537, 1, 1, 1, 0, 0⟩ ⟨0, 0, 0, 0, 0, 0, 0, 0⟩ 1 (by kernel_rfl) (by kernel_rfl) _ HT.out).mono ?_
            rintro e w3 ⟨rfl, k3⟩
            have K3 := hide (HK.out.trans k3)
            clear x0 x1 x2 x3 x4 x5 k3
            go_wp2
            go_roundw
            case rel => (repeat apply Exists.intro); exact ⟨⟨6, by omega, by go_num, K3.out.alloc _ _⟩, rfl⟩
            case measure => simp [intOf]
          · obtain ⟨x0, x1, x2, x3, x4, x5⟩ := r1
            simp only [badAt, Nat.reduceMul, Nat.reduceAdd] at x0 x1 x2 x3 x4 x5
            go_wp2_with fail
            refine (of_to ⟨1, 4611686018427387904, 1, 1, 0, 0⟩ ⟨0, 0, 0, 0, 0, 0, 0, 0⟩ 1 (by kernel_rfl) (by kernel_rfl) _ HT.out).mono ?_
            rintro e w3 ⟨rfl, k3⟩
            have K3 := hide (HK.out.trans k3)
            clear x0 x1 x2 x3 x4 x5 k3
            go_wp2
            go_roundw
            case rel => (repeat apply Exists.intro); exact ⟨⟨7, by omega, by go_num, K3.out.alloc _ _⟩, rfl⟩
            case measure => simp [intOf]
          · obtain ⟨x0, x1, x2, x3, x4, x5⟩ := r1
            simp only [badAt, Nat.reduceMul, Nat.reduceAdd] at x0 x1 x2 x3 x4 x5
            go_wp2_with fail
            refine (of_to ⟨1, 1, 1, 1, -1, 0⟩ ⟨0, 0, 0, 0, 0, 0, 0, 0⟩ 1 (by kernel_rfl) (by kernel_rfl) _ HT.out).mono ?_
            rintro e w3 ⟨rfl, k3⟩
            have K3 := hide (HK.out.trans k3)
            clear x0 x1 x2 x3 x4 x5 k3
            go_wp2
            go_roundw
            case rel => (repeat apply Exists.intro); exact ⟨⟨8, by omega, by go_num, K3.out.alloc _ _⟩, rfl⟩
            case measure => simp [intOf]
          · obtain ⟨x0, x1, x2, x3, x4, x5⟩ := r1
            simp only [badAt, Nat.reduceMul, Nat.reduceAdd] at x0 x1 x2 x3 x4 x5
            go_wp2_with fail
            refine (of_to ⟨1, 1, 1, 1, 0, 256⟩ ⟨0, 0, 0, 0, 0, 0, 0, 0⟩ 1 (by kernel_rfl) (by kernel_rfl) _ HT.out).mono ?_
            rintro e w3 ⟨rfl, k3⟩
            have K3 := hide (HK.out.trans k3)
            clear x0 x1 x2 x3 x4 x5 k3
            go_wp2
            go_roundw
            case rel => (repeat apply Exists.intro); exact ⟨⟨9, by omega, by go_num, K3.out.alloc _ _⟩, rfl⟩
            case measure => simp [intOf]
          · obtain ⟨x0, x1, x2, x3, x4, x5⟩ := r1
            simp only [badAt, Nat.reduceMul, Nat.reduceAdd] at x0 x1 x2 x3 x4 x5
            go_wp2_with fail
            refine (of_to ⟨1, 1, 1, 1, 65537, 0⟩ ⟨0, 0, 0, 0, 0, 0, 0, 0⟩ 1 (by kernel_rfl) (by kernel_rfl) _ HT.out).mono ?_
            rintro e w3 ⟨rfl, k3⟩
            have K3 := hide (HK.out.trans k3)
            clear x0 x1 x2 x3 x4 x5 k3
            go_wp2
            go_roundw
            case rel => (repeat apply Exists.intro); exact ⟨⟨10, by omega, by go_num, K3.out.alloc _ _⟩, rfl⟩
            case measure => simp [intOf]
          · obtain ⟨x0, x1, x2, x3, x4, x5⟩ := r1
            simp only [badAt, Nat.reduceMul, Nat.reduceAdd] at x0 x1 x2 x3 x4 x5
            go_wp2_with fail
            refine (of_to ⟨1, 2, 65536, 1, 0, 0⟩ ⟨0, 0, 0, 0, 0, 0, 0, 0⟩ 1 (by kernel_rfl) (by kernel_rfl) _ HT.out).mono ?_
            rintro e w3 ⟨rfl, k3⟩
            have K3 := hide (HK.out.trans k3)
            clear x0 x1 x2 x3 x4 x5 k3
            go_wp2
            go_roundw
            case rel => (repeat apply Exists.intro); exact ⟨⟨11, by omega, by go_num, K3.out.alloc _ _⟩, rfl⟩
            case measure => simp [intOf]
          · obtain ⟨x0, x1, x2, x3, x4, x5⟩ := r1
            simp only [badAt, Nat.reduceMul, Nat.reduceAdd] at x0 x1 x2 x3 x4 x5
            go_wp2_with fail
            refine (of_to ⟨1, 40000, 1, 1, 0, 0⟩ ⟨0, 0, 0, 0, 0, 0, 0, 0⟩ 1 (by kernel_rfl) (by kernel_rfl) _ HT.out).mono ?_
            rintro e w3 ⟨rfl, k3⟩
            have K3 := hide (HK.out.trans k3)
            clear x0 x1 x2 x3 x4 x5 k3
            go_wp2
            go_roundw
            case rel => (repeat apply Exists.intro); exact ⟨⟨12, by omega, by go_num, K3.out.alloc _ _⟩, rfl⟩
            case measure => simp [intOf]
          · obtain ⟨x0, x1, x2, x3, x4, x5⟩ := r1
            simp only [badAt, Nat.reduceMul, Nat.reduceAdd] at x0 x1 x2 x3 x4 x5
            go_wp2_with fail
            refine (of_to ⟨1, 1, 1, 1, 0, -1⟩ ⟨0, 0, 0, 0, 0, 0, 0, 0⟩ 1 (by kernel_rfl) (by kernel_rfl) _ HT.out).mono ?_
            rintro e w3 ⟨rfl, k3⟩
            have K3 := hide (HK.out.trans k3)
            clear x0 x1 x2 x3 x4 x5 k3
            go_wp2
            go_roundw
            case rel => (repeat apply Exists.intro); exact ⟨⟨13, by omega, by go_num, K3.out.alloc _ _⟩, rfl⟩
            case measure => simp [intOf]
        · have HK := hide (h3.out.trans hK)
          clear hK
          go_wp2
          go_ret
          exact ⟨rfl, HK.out.grown⟩

set_option linter.unusedVariables false
set_option maxRecDepth 100000 in
theorem confForms_lifted (os : Os) (started : os.Started) (H : Type) (enc : TypeId × Value → H) :
    ReturnsInHanded {} Tryd.checked os 5 .any (fun w args => (Rows.confFormsSpec.pre enc Tryd.prog Tryd.f5 [] false w args ∧ laidMetH Tryd.prog laid1 w) ∧ sizedMet enc Tryd.prog Tryd.f5 (OpenSpec.ofChange Rows.confFormsSpec) false w args)
      (Rows.confFormsSpec.post enc Tryd.prog Tryd.f5 false true false false) := by
  refine returnsInHanded_of_change_and (C := Tryd.checked) (X := fun w _ => laidMetH Tryd.prog laid1 w) (fun _ _ _ hh h => h.of_heap hh) own started (by kernel_rfl) Tryd.func5
    (ChangeSpec.witness_shaped (enc := enc) (C := Tryd.checked) (os := os) (X := fun w _ => laidMetH Tryd.prog laid1 w) false (World.doorLaid Tryd.prog 400 os) #[] 8 rfl (World.shaped_of_RefB (by kernel_rfl) (by kernel_rfl)) (by kernel_rfl) (by kernel_rfl) (by kernel_rfl) (door_met os _)) ?_
  intro W base args ds gs before hval0 hW _ _ hL _
  have hval : ∀ (j : Nat) t v, Tryd.f5.params[j]? = some t → args[j]? = some v → Value.okWide Tryd.prog W .any base t v := hval0
  have hW' := hW
  obtain ⟨p, q, hA0, hV, rfl, hfz, hnd⟩ := hW
  have hA : DataW.TrodAll enc Tryd.prog W 0 (fun _ => true) true Tryd.f5.params.toList args.toList ds p := hA0
  rw [Tryd.params5] at hA hval
  obtain ⟨rfl, rfl, rfl⟩ := trodAll_none hA
  obtain ⟨rfl, rfl⟩ := trodVars_none hV
  clear hA0 hval0
  simp only [List.append_nil] at hW'
  have hT := tab_of_laid hL
  refine (confForms_walk  W hT).mono fun e W' ⟨he, hg⟩ => ?_
  subst he
  exact ⟨_, rfl, post_of_same (pa := []) (pv := []) hW' (fun _ _ _ => (trodAll_cons_mk (shut_bool Tryd.underlying4 _) trodAll_mk0)) (fun sp _ => trodAll_mk0) (fun _ _ => rfl) rfl
    (hg.frame _) hg.2.1 (ok_one (by kernel_rfl) rfl (okWide_bool_mk Tryd.underlying4 _))⟩

theorem confForms_row : Rows.ConfFormsSaid :=
  OpenClaim.holds_of_wide 5 Tryd.f5 rfl rfl rfl rfl rfl rfl rfl ⟨rfl, rfl, rfl, rfl, rfl⟩ rfl rfl rfl rfl rfl (by kernel_rfl) Tryd.func5 (by kernel_rfl)
    (of_decide_eq_true (by kernel_rfl)) (by unfold Func.isWrapper; first | (rw [if_pos (by decide +kernel)]; kernel_rfl) | (rw [if_neg (by decide +kernel)]; exact ⟨rfl, rfl⟩))
    (fun os started H enc _ => confForms_lifted os started H enc)

theorem confForms_holds : Rows.ConfFormsCardSaid :=
  Claim7.holds_tied_plain_at .later [] [.data] true (true, "5d179eec2e484eb2795ae111637b29105e9fc6925278dbcef82113e027d39594") false
    confForms_row (fun _ h => by cases h) (by kernel_rfl) (fun _ h => by cases h) confForms_row_tie rfl ⟨rfl, rfl⟩ (by kernel_rfl) rfl
    (fun f fn hf hfn => by
      obtain rfl : f = 5 := Option.some.inj ((show Tryd.prog.funcNamed "hodman/hodmanlaw2.ConfForms" = some 5 by kernel_rfl).symm.trans hf) |>.symm
      obtain rfl : fn = Tryd.f5 := (Option.some.inj (Tryd.func5.symm.trans hfn)).symm
      exact ⟨by kernel_rfl, fun j t ht => by
        rw [Tryd.params5] at ht
        simp at ht⟩)
    (by kernel_rfl)
#print axioms confForms_holds
end Go.Proofs.YtekffikkbiohnaaDoor
