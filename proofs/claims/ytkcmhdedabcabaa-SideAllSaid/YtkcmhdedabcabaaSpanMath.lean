/- Pieces that lie apart, of no program: which may be (mayB, Val), what is put (putB, insV), what is cut (cutK), what they are together (tot, endV). -/
import Derived.Test.YtkcmhdedabcabaaBase
namespace Go.Proofs.Ytkcmhdedabcabaa

abbrev Pc := Int × Int
/-- may it be by itself? -/
def aloneB (p : Pc) : Bool := decide (1 ≤ p.2) && decide (0 ≤ p.1) && decide (p.2 ≤ 1099511627776 - p.1)
theorem alone_iff (p : Pc) : aloneB p = true ↔ 1 ≤ p.2 ∧ 0 ≤ p.1 ∧ p.1 + p.2 ≤ 1099511627776 := by
  unfold aloneB
  simp only [Bool.and_eq_true, decide_eq_true_eq]
  omega
def overB (x s : Pc) : Bool := decide (x.1 < s.1 + s.2) && decide (s.1 < x.1 + x.2)
theorem over_iff (x s : Pc) : overB x s = true ↔ x.1 < s.1 + s.2 ∧ s.1 < x.1 + x.2 := by
  unfold overB
  simp only [Bool.and_eq_true, decide_eq_true_eq]
theorem over_false (x s : Pc) : overB x s = false ↔ s.1 + s.2 ≤ x.1 ∨ x.1 + x.2 ≤ s.1 := by
  rw [← Bool.not_eq_true, over_iff]
  omega

def Good (ps : List Pc) : Prop := ∀ p ∈ ps, aloneB p = true
/-- pieces that lie apart, rising -/
def Val (ps : List Pc) : Prop := Good ps ∧ ps.Pairwise (fun p q => p.1 + p.2 ≤ q.1)
theorem val_nil : Val [] := ⟨fun p hp => by simp at hp, List.Pairwise.nil⟩
def mayB : Int → List Pc → Bool
  | _, [] => true
  | e, p :: r => aloneB p && decide (e ≤ p.1) && mayB (p.1 + p.2) r
theorem may_of_val : ∀ (ps : List Pc) (e : Int), (∀ p ∈ ps, e ≤ p.1) → Val ps → mayB e ps = true
  | [], _, _, _ => rfl
  | p :: r, e, he, hv => by
    obtain ⟨hg, hp⟩ := hv
    obtain ⟨h1, h2⟩ := List.pairwise_cons.1 hp
    unfold mayB
    rw [hg p (by simp), decide_eq_true (he p (by simp)), may_of_val r (p.1 + p.2) h1 ⟨fun q hq => hg q (by simp [hq]), h2⟩]
    rfl
theorem Val.may {ps : List Pc} (h : Val ps) : mayB 0 ps = true := may_of_val ps 0 (fun p hp => ((alone_iff p).1 (h.1 p hp)).2.1) h

/-- the i-th -/
abbrev nth (ps : List Pc) (i : Nat) : Pc := ps.getD i (0, 0)
theorem nth_mem {ps : List Pc} {i : Nat} (h : i < ps.length) : nth ps i ∈ ps := by
  show ps.getD i (0, 0) ∈ ps
  rw [List.getD_eq_getElem?_getD, List.getElem?_eq_getElem h]
  exact List.getElem_mem h
theorem nth_get {ps : List Pc} {i : Nat} (h : i < ps.length) : ps[i] = nth ps i := by
  show ps[i] = ps.getD i (0, 0)
  rw [List.getD_eq_getElem?_getD, List.getElem?_eq_getElem h]; rfl
theorem mem_nth {ps : List Pc} {p : Pc} (h : p ∈ ps) : ∃ i, i < ps.length ∧ p = nth ps i := by
  obtain ⟨i, hi, e⟩ := List.getElem_of_mem h
  exact ⟨i, hi, by rw [← e, nth_get hi]⟩
theorem drop_nth {ps : List Pc} {i : Nat} (h : i < ps.length) : ps.drop i = nth ps i :: ps.drop (i + 1) := by
  rw [List.drop_eq_getElem_cons h, nth_get h]
theorem take_nth {ps : List Pc} {i : Nat} (h : i < ps.length) : ps.take (i + 1) = ps.take i ++ [nth ps i] := by
  rw [List.take_succ_eq_append_getElem h, nth_get h]
theorem Val.lt {ps : List Pc} (h : Val ps) {i j : Nat} (hij : i < j) (hj : j < ps.length) : (nth ps i).1 + (nth ps i).2 ≤ (nth ps j).1 := by
  have := List.pairwise_iff_getElem.1 h.2 i j (by omega) hj hij
  rwa [nth_get, nth_get] at this
theorem Val.pos {ps : List Pc} (h : Val ps) {i : Nat} (hi : i < ps.length) : 1 ≤ (nth ps i).2 ∧ 0 ≤ (nth ps i).1 ∧ (nth ps i).1 + (nth ps i).2 ≤ 1099511627776 := (alone_iff _).1 (h.1 _ (nth_mem hi))
theorem Good.pos {ps : List Pc} (h : Good ps) {i : Nat} (hi : i < ps.length) : 1 ≤ (nth ps i).2 ∧ 0 ≤ (nth ps i).1 ∧ (nth ps i).1 + (nth ps i).2 ≤ 1099511627776 := (alone_iff _).1 (h _ (nth_mem hi))
theorem Val.inj {ps : List Pc} (h : Val ps) {i j : Nat} (hi : i < ps.length) (hj : j < ps.length) (e : (nth ps i).1 = (nth ps j).1) : i = j := by
  rcases Nat.lt_trichotomy i j with h1 | h1 | h1
  · have := h.lt h1 hj; have := h.pos hi; omega
  · exact h1
  · have := h.lt h1 hi; have := h.pos hj; omega

/-! may, a piece at a time -/
theorem may_end (e : Int) (ps : List Pc) : mayB e (ps.drop ps.length) = true := by rw [List.drop_length]; rfl
theorem may_go {e : Int} {ps : List Pc} {j : Nat} (h : j < ps.length) (ha : aloneB (nth ps j) = true) (he : e ≤ (nth ps j).1) : mayB e (ps.drop j) = mayB ((nth ps j).1 + (nth ps j).2) (ps.drop (j + 1)) := by
  rw [drop_nth h]
  show (aloneB (nth ps j) && decide (e ≤ (nth ps j).1) && mayB ((nth ps j).1 + (nth ps j).2) (ps.drop (j + 1))) = _
  rw [ha, decide_eq_true he]; rfl
theorem may_no {e : Int} {ps : List Pc} {j : Nat} (h : j < ps.length) (ha : aloneB (nth ps j) = false ∨ (nth ps j).1 < e) : mayB e (ps.drop j) = false := by
  rw [drop_nth h]
  show (aloneB (nth ps j) && decide (e ≤ (nth ps j).1) && mayB ((nth ps j).1 + (nth ps j).2) (ps.drop (j + 1))) = false
  rcases ha with ha | ha
  · rw [ha]; rfl
  · rw [decide_eq_false (by omega)]; simp

/-! together -/
def tot (ps : List Pc) : Int := (ps.map (·.2)).sum
theorem tot_take {ps : List Pc} {j : Nat} (h : j < ps.length) : tot (ps.take (j + 1)) = tot (ps.take j) + (nth ps j).2 := by
  rw [take_nth h]; unfold tot; simp
theorem tot_append (a b : List Pc) : tot (a ++ b) = tot a + tot b := by unfold tot; simp
theorem tot_in {ps : List Pc} (hg : Good ps) : ∀ j, j ≤ ps.length → 0 ≤ tot (ps.take j) ∧ tot (ps.take j) ≤ j * 1099511627776
  | 0, _ => by simp [tot]
  | j + 1, h => by
    have := tot_in hg j (by omega)
    have := hg.pos (show j < ps.length by omega)
    rw [tot_take (by omega)]
    omega
def endV (ps : List Pc) : Int := if ps.length = 0 then 0 else (nth ps (ps.length - 1)).1 + (nth ps (ps.length - 1)).2

/-! put -/
def aheadN : List Pc → Int → Nat
  | [], _ => 0
  | p :: r, a => if p.1 < a then aheadN r a + 1 else 0
theorem ahead_le : ∀ (ps : List Pc) (a : Int), aheadN ps a ≤ ps.length
  | [], _ => Nat.le_refl _
  | p :: r, a => by
    unfold aheadN
    have := ahead_le r a
    split <;> simp <;> omega
theorem ahead_lt : ∀ (ps : List Pc) (a : Int) (i : Nat), i < aheadN ps a → (nth ps i).1 < a
  | [], _, i, h => by simp [aheadN] at h
  | p :: r, a, i, h => by
    unfold aheadN at h
    split at h
    · rename_i hp
      cases i with
      | zero => simpa [nth] using hp
      | succ i => have := ahead_lt r a i (by omega); simpa [nth] using this
    · omega
theorem ahead_at : ∀ (ps : List Pc) (a : Int), aheadN ps a < ps.length → a ≤ (nth ps (aheadN ps a)).1
  | [], _, h => by simp [aheadN] at h
  | p :: r, a, h => by
    unfold aheadN at h ⊢
    split
    · rename_i hp
      rw [if_pos hp] at h
      have := ahead_at r a (by simpa using h)
      simpa [nth] using this
    · rename_i hp; simp [nth]; omega
theorem ahead_eq {ps : List Pc} {a : Int} {j : Nat} (hj : j ≤ ps.length) (h1 : ∀ t, t < j → (nth ps t).1 < a) (h2 : j < ps.length → a ≤ (nth ps j).1) : aheadN ps a = j := by
  have := ahead_le ps a
  rcases Nat.lt_trichotomy (aheadN ps a) j with h | h | h
  · have := h1 _ h; have := ahead_at ps a (by omega); omega
  · exact h
  · have := ahead_lt ps a j h; have := h2 (by omega); omega
def insV (ps : List Pc) (s : Pc) : List Pc := ps.take (aheadN ps s.1) ++ s :: ps.drop (aheadN ps s.1)
theorem ins_length (ps : List Pc) (s : Pc) : (insV ps s).length = ps.length + 1 := by
  unfold insV
  have := ahead_le ps s.1
  simp
  omega
def putB (ps : List Pc) (s : Pc) : Bool := aloneB s && !(ps.any fun x => overB x s)
def putL (ps : List Pc) (s : Pc) : List Pc := if putB ps s then insV ps s else ps
theorem any_false {ps : List Pc} {s : Pc} (h : ∀ t, t < ps.length → overB (nth ps t) s = false) : (ps.any fun x => overB x s) = false := by
  rw [Bool.eq_false_iff]
  intro hc
  obtain ⟨p, hp, ho⟩ := List.any_eq_true.1 hc
  obtain ⟨i, hi, rfl⟩ := mem_nth hp
  rw [h i hi] at ho
  cases ho
theorem any_true {ps : List Pc} {s : Pc} {t : Nat} (ht : t < ps.length) (h : overB (nth ps t) s = true) : (ps.any fun x => overB x s) = true := List.any_eq_true.2 ⟨_, nth_mem ht, h⟩
theorem any_nth {ps : List Pc} {s : Pc} (h : (ps.any fun x => overB x s) = false) {t : Nat} (ht : t < ps.length) : overB (nth ps t) s = false := by
  rw [Bool.eq_false_iff] at h ⊢
  exact fun hc => h (any_true ht hc)
theorem put_iff (ps : List Pc) (s : Pc) : putB ps s = true ↔ aloneB s = true ∧ (ps.any fun x => overB x s) = false := by
  unfold putB
  simp only [Bool.and_eq_true, Bool.not_eq_true']
theorem putL_yes {ps : List Pc} {s : Pc} (h : putB ps s = true) : putL ps s = insV ps s := by unfold putL; rw [if_pos h]
theorem putL_no {ps : List Pc} {s : Pc} (h : putB ps s = false) : putL ps s = ps := by unfold putL; rw [h]; rfl
theorem val_ins {ps : List Pc} {s : Pc} (hv : Val ps) (h : putB ps s = true) : Val (insV ps s) := by
  obtain ⟨ha, ho⟩ := (put_iff ps s).1 h
  have hs := (alone_iff s).1 ha
  have hk := ahead_le ps s.1
  have low : ∀ p ∈ ps.take (aheadN ps s.1), p.1 + p.2 ≤ s.1 := by
    intro p hp
    obtain ⟨i, hi, e⟩ := List.getElem_of_mem hp
    rw [List.length_take] at hi
    rw [List.getElem_take] at e
    have hi2 : i < ps.length := by omega
    rw [nth_get hi2] at e
    have h1 := ahead_lt ps s.1 i (by omega)
    have h2 := (over_false _ _).1 (any_nth ho hi2)
    rw [e] at h1 h2
    omega
  have high : ∀ p ∈ ps.drop (aheadN ps s.1), s.1 + s.2 ≤ p.1 := by
    intro p hp
    obtain ⟨i, hi, e⟩ := List.getElem_of_mem hp
    rw [List.length_drop] at hi
    rw [List.getElem_drop] at e
    have hi2 : aheadN ps s.1 + i < ps.length := by omega
    rw [nth_get hi2] at e
    have h0 := ahead_at ps s.1 (by omega)
    have h1 : s.1 ≤ (nth ps (aheadN ps s.1 + i)).1 := by
      cases i with
      | zero => simpa using h0
      | succ i =>
        have := hv.lt (show aheadN ps s.1 < aheadN ps s.1 + (i + 1) by omega) hi2
        have := hv.pos (show aheadN ps s.1 < ps.length by omega)
        omega
    have h2 := (over_false _ _).1 (any_nth ho hi2)
    have h3 := hv.pos hi2
    rw [e] at h1 h2 h3
    omega
  refine ⟨?_, ?_⟩
  · intro p hp
    unfold insV at hp
    rcases List.mem_append.1 hp with hp | hp
    · exact hv.1 p (List.mem_of_mem_take hp)
    · rcases List.mem_cons.1 hp with rfl | hp
      · exact ha
      · exact hv.1 p (List.mem_of_mem_drop hp)
  · unfold insV
    refine List.pairwise_append.2 ⟨hv.2.take, List.pairwise_cons.2 ⟨high, hv.2.drop⟩, ?_⟩
    intro p hp q hq
    have h1 := low p hp
    rcases List.mem_cons.1 hq with rfl | hq
    · exact h1
    · have := high q hq; omega
theorem val_put {ps : List Pc} (hv : Val ps) (s : Pc) : Val (putL ps s) := by
  cases h : putB ps s with
  | true => rw [putL_yes h]; exact val_ins hv h
  | false => rw [putL_no h]; exact hv
theorem put_length (ps : List Pc) (s : Pc) : (putL ps s).length ≤ ps.length + 1 := by
  unfold putL
  split
  · rw [ins_length]; exact Nat.le_refl _
  · omega

/-! cut -/
def cutK (ps : List Pc) (a : Int) : Nat := ps.findIdx (fun p => p.1 == a)
def cutB (ps : List Pc) (a : Int) : Bool := decide (cutK ps a < ps.length)
def cutL (ps : List Pc) (a : Int) : List Pc := ps.eraseIdx (cutK ps a)
def cutP (ps : List Pc) (a : Int) : Pc := nth ps (cutK ps a)
theorem cutK_le (ps : List Pc) (a : Int) : cutK ps a ≤ ps.length := List.findIdx_le_length
theorem cut_none {ps : List Pc} {a : Int} (h : ∀ t, t < ps.length → (nth ps t).1 ≠ a) : cutK ps a = ps.length := by
  have h0 := cutK_le ps a
  rcases Nat.lt_or_ge (cutK ps a) ps.length with h1 | h1
  · exfalso
    have h2 := List.findIdx_getElem (p := fun p : Pc => p.1 == a) (w := h1)
    have h3 := h (cutK ps a) h1
    rw [← nth_get h1] at h3
    exact h3 (eq_of_beq h2)
  · omega
theorem cut_first {ps : List Pc} {a : Int} {j : Nat} (hj : j < ps.length) (h1 : ∀ t, t < j → (nth ps t).1 ≠ a) (h2 : (nth ps j).1 = a) : cutK ps a = j := by
  have hlt : cutK ps a < ps.length := List.findIdx_lt_length_of_exists ⟨nth ps j, nth_mem hj, by simpa using h2⟩
  have hk : (nth ps (cutK ps a)).1 = a := by
    have := List.findIdx_getElem (p := fun p : Pc => p.1 == a) (w := hlt)
    rw [← nth_get hlt]
    exact eq_of_beq this
  rcases Nat.lt_trichotomy (cutK ps a) j with h | h | h
  · exact absurd hk (h1 _ h)
  · exact h
  · have h3 : ((ps[j]).1 == a) = false := List.not_of_lt_findIdx (p := fun p : Pc => p.1 == a) (xs := ps) h
    rw [nth_get hj, h2] at h3
    rw [beq_self_eq_true a] at h3
    cases h3
theorem cut_val {ps : List Pc} (hv : Val ps) {a : Int} {j : Nat} (hj : j < ps.length) (h2 : (nth ps j).1 = a) : cutK ps a = j :=
  cut_first hj (fun t ht e => by have := hv.inj (by omega) hj (e.trans h2.symm); omega) h2
theorem cut_lt {ps : List Pc} {a : Int} (h : cutK ps a < ps.length) : (nth ps (cutK ps a)).1 = a := by
  have := List.findIdx_getElem (p := fun p : Pc => p.1 == a) (w := h)
  rw [← nth_get h]
  exact eq_of_beq this
theorem erase_eq {ps : List Pc} (i : Nat) : ps.eraseIdx i = ps.take i ++ ps.drop (i + 1) := List.eraseIdx_eq_take_drop_succ ps i
theorem erase_all {ps : List Pc} : ps.eraseIdx ps.length = ps := List.eraseIdx_of_length_le (Nat.le_refl _)
theorem val_erase {ps : List Pc} (hv : Val ps) (i : Nat) : Val (ps.eraseIdx i) :=
  ⟨fun p hp => hv.1 p (List.mem_of_mem_eraseIdx hp), hv.2.sublist (List.eraseIdx_sublist ps i)⟩
theorem erase_le (ps : List Pc) (i : Nat) : (ps.eraseIdx i).length ≤ ps.length := (List.eraseIdx_sublist ps i).length_le
end Go.Proofs.Ytkcmhdedabcabaa
