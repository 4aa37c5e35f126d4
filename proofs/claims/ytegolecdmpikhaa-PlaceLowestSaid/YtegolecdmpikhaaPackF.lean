/- Several texts as one: SpanMath, MarkMath, PairMem, MarkMem, RefMarkA, RefMarkC, RefMarkB. -/
import Derived.Test.YtegolecdmpikhaaPackA
import Derived.OneCell
import Derived.Deep.QuietTactic
import Derived.BigQuiet
import Derived.Test.YtegolecdmpikhaaPackE
import Derived.Handy
/- Pieces that lie apart, of no program: which may be (mayB, Val), what is put (putB, insV), what is cut (cutK), what they are together (tot, endV). -/
namespace Go.Proofs.Ytegolecdmpikhaa

abbrev Pc := Int × Int
/-- may it be by itself? -/
def aloneB (p : Pc) : Bool := decide (1 ≤ p.2) && decide (0 ≤ p.1) && decide (p.2 ≤ 1099511627776 - p.1)
theorem alone_iff (p : Pc) : aloneB p = true ↔ 1 ≤ p.2 ∧ 0 ≤ p.1 ∧ p.1 + p.2 ≤ 1099511627776 := by
  unfold aloneB
  simp only [Bool.and_eq_true, decide_eq_true_eq]
  omega
def overB (x s : Pc) : Bool := decide (x.1 < s.1 + s.2) && decide (s.1 < x.1 + x.2)
theorem over_iff (x s : Pc) : overB x s = true ↔ x.1 < s.1 + s.2 ∧ s.1 < x.1 + x.2 := by
  unfold overB
  simp only [Bool.and_eq_true, decide_eq_true_eq]
theorem over_false (x s : Pc) : overB x s = false ↔ s.1 + s.2 ≤ x.1 ∨ x.1 + x.2 ≤ s.1 := by
  rw [← Bool.not_eq_true, over_iff]
  omega

def Good (ps : List Pc) : Prop := ∀ p ∈ ps, aloneB p = true
/-- pieces that lie apart, rising -/
def Val (ps : List Pc) : Prop := Good ps ∧ ps.Pairwise (fun p q => p.1 + p.2 ≤ q.1)
theorem val_nil : Val [] := ⟨fun p hp => by simp at hp, List.Pairwise.nil⟩
def mayB : Int → List Pc → Bool
  | _, [] => true
  | e, p :: r => aloneB p && decide (e ≤ p.1) && mayB (p.1 + p.2) r
theorem may_of_val : ∀ (ps : List Pc) (e : Int), (∀ p ∈ ps, e ≤ p.1) → Val ps → mayB e ps = true
  | [], _, _, _ => rfl
  | p :: r, e, he, hv => by
    obtain ⟨hg, hp⟩ := hv
    obtain ⟨h1, h2⟩ := List.pairwise_cons.1 hp
    unfold mayB
    rw [hg p (by simp), decide_eq_true (he p (by simp)), may_of_val r (p.1 + p.2) h1 ⟨fun q hq => hg q (by simp [hq]), h2⟩]
    rfl
theorem Val.may {ps : List Pc} (h : Val ps) : mayB 0 ps = true := may_of_val ps 0 (fun p hp => ((alone_iff p).1 (h.1 p hp)).2.1) h

/-- the i-th -/
abbrev nth (ps : List Pc) (i : Nat) : Pc := ps.getD i (0, 0)
theorem nth_mem {ps : List Pc} {i : Nat} (h : i < ps.length) : nth ps i ∈ ps := by
  show ps.getD i (0, 0) ∈ ps
  rw [List.getD_eq_getElem?_getD, List.getElem?_eq_getElem h]
  exact List.getElem_mem h
theorem nth_get {ps : List Pc} {i : Nat} (h : i < ps.length) : ps[i] = nth ps i := by
  show ps[i] = ps.getD i (0, 0)
  rw [List.getD_eq_getElem?_getD, List.getElem?_eq_getElem h]; rfl
theorem mem_nth {ps : List Pc} {p : Pc} (h : p ∈ ps) : ∃ i, i < ps.length ∧ p = nth ps i := by
  obtain ⟨i, hi, e⟩ := List.getElem_of_mem h
  exact ⟨i, hi, by rw [← e, nth_get hi]⟩
theorem drop_nth {ps : List Pc} {i : Nat} (h : i < ps.length) : ps.drop i = nth ps i :: ps.drop (i + 1) := by
  rw [List.drop_eq_getElem_cons h, nth_get h]
theorem take_nth {ps : List Pc} {i : Nat} (h : i < ps.length) : ps.take (i + 1) = ps.take i ++ [nth ps i] := by
  rw [List.take_succ_eq_append_getElem h, nth_get h]
theorem Val.lt {ps : List Pc} (h : Val ps) {i j : Nat} (hij : i < j) (hj : j < ps.length) : (nth ps i).1 + (nth ps i).2 ≤ (nth ps j).1 := by
  have := List.pairwise_iff_getElem.1 h.2 i j (by omega) hj hij
  rwa [nth_get, nth_get] at this
theorem Val.pos {ps : List Pc} (h : Val ps) {i : Nat} (hi : i < ps.length) : 1 ≤ (nth ps i).2 ∧ 0 ≤ (nth ps i).1 ∧ (nth ps i).1 + (nth ps i).2 ≤ 1099511627776 := (alone_iff _).1 (h.1 _ (nth_mem hi))
theorem Good.pos {ps : List Pc} (h : Good ps) {i : Nat} (hi : i < ps.length) : 1 ≤ (nth ps i).2 ∧ 0 ≤ (nth ps i).1 ∧ (nth ps i).1 + (nth ps i).2 ≤ 1099511627776 := (alone_iff _).1 (h _ (nth_mem hi))
theorem Val.inj {ps : List Pc} (h : Val ps) {i j : Nat} (hi : i < ps.length) (hj : j < ps.length) (e : (nth ps i).1 = (nth ps j).1) : i = j := by
  rcases Nat.lt_trichotomy i j with h1 | h1 | h1
  · have := h.lt h1 hj; have := h.pos hi; omega
  · exact h1
  · have := h.lt h1 hi; have := h.pos hj; omega

/-! may, a piece at a time -/
theorem may_end (e : Int) (ps : List Pc) : mayB e (ps.drop ps.length) = true := by rw [List.drop_length]; rfl
theorem may_go {e : Int} {ps : List Pc} {j : Nat} (h : j < ps.length) (ha : aloneB (nth ps j) = true) (he : e ≤ (nth ps j).1) : mayB e (ps.drop j) = mayB ((nth ps j).1 + (nth ps j).2) (ps.drop (j + 1)) := by
  rw [drop_nth h]
  show (aloneB (nth ps j) && decide (e ≤ (nth ps j).1) && mayB ((nth ps j).1 + (nth ps j).2) (ps.drop (j + 1))) = _
  rw [ha, decide_eq_true he]; rfl
theorem may_no {e : Int} {ps : List Pc} {j : Nat} (h : j < ps.length) (ha : aloneB (nth ps j) = false ∨ (nth ps j).1 < e) : mayB e (ps.drop j) = false := by
  rw [drop_nth h]
  show (aloneB (nth ps j) && decide (e ≤ (nth ps j).1) && mayB ((nth ps j).1 + (nth ps j).2) (ps.drop (j + 1))) = false
  rcases ha with ha | ha
  · rw [ha]; rfl
  · rw [decide_eq_false (by omega)]; simp

/-! together -/
def tot (ps : List Pc) : Int := (ps.map (·.2)).sum
theorem tot_take {ps : List Pc} {j : Nat} (h : j < ps.length) : tot (ps.take (j + 1)) = tot (ps.take j) + (nth ps j).2 := by
  rw [take_nth h]; unfold tot; simp
theorem tot_append (a b : List Pc) : tot (a ++ b) = tot a + tot b := by unfold tot; simp
theorem tot_in {ps : List Pc} (hg : Good ps) : ∀ j, j ≤ ps.length → 0 ≤ tot (ps.take j) ∧ tot (ps.take j) ≤ j * 1099511627776
  | 0, _ => by simp [tot]
  | j + 1, h => by
    have := tot_in hg j (by omega)
    have := hg.pos (show j < ps.length by omega)
    rw [tot_take (by omega)]
    omega
def endV (ps : List Pc) : Int := if ps.length = 0 then 0 else (nth ps (ps.length - 1)).1 + (nth ps (ps.length - 1)).2

/-! put -/
def aheadN : List Pc → Int → Nat
  | [], _ => 0
  | p :: r, a => if p.1 < a then aheadN r a + 1 else 0
theorem ahead_le : ∀ (ps : List Pc) (a : Int), aheadN ps a ≤ ps.length
  | [], _ => Nat.le_refl _
  | p :: r, a => by
    unfold aheadN
    have := ahead_le r a
    split <;> simp <;> omega
theorem ahead_lt : ∀ (ps : List Pc) (a : Int) (i : Nat), i < aheadN ps a → (nth ps i).1 < a
  | [], _, i, h => by simp [aheadN] at h
  | p :: r, a, i, h => by
    unfold aheadN at h
    split at h
    · rename_i hp
      cases i with
      | zero => simpa [nth] using hp
      | succ i => have := ahead_lt r a i (by omega); simpa [nth] using this
    · omega
theorem ahead_at : ∀ (ps : List Pc) (a : Int), aheadN ps a < ps.length → a ≤ (nth ps (aheadN ps a)).1
  | [], _, h => by simp [aheadN] at h
  | p :: r, a, h => by
    unfold aheadN at h ⊢
    split
    · rename_i hp
      rw [if_pos hp] at h
      have := ahead_at r a (by simpa using h)
      simpa [nth] using this
    · rename_i hp; simp [nth]; omega
theorem ahead_eq {ps : List Pc} {a : Int} {j : Nat} (hj : j ≤ ps.length) (h1 : ∀ t, t < j → (nth ps t).1 < a) (h2 : j < ps.length → a ≤ (nth ps j).1) : aheadN ps a = j := by
  have := ahead_le ps a
  rcases Nat.lt_trichotomy (aheadN ps a) j with h | h | h
  · have := h1 _ h; have := ahead_at ps a (by omega); omega
  · exact h
  · have := ahead_lt ps a j h; have := h2 (by omega); omega
def insV (ps : List Pc) (s : Pc) : List Pc := ps.take (aheadN ps s.1) ++ s :: ps.drop (aheadN ps s.1)
theorem ins_length (ps : List Pc) (s : Pc) : (insV ps s).length = ps.length + 1 := by
  unfold insV
  have := ahead_le ps s.1
  simp
  omega
def putB (ps : List Pc) (s : Pc) : Bool := aloneB s && !(ps.any fun x => overB x s)
def putL (ps : List Pc) (s : Pc) : List Pc := if putB ps s then insV ps s else ps
theorem any_false {ps : List Pc} {s : Pc} (h : ∀ t, t < ps.length → overB (nth ps t) s = false) : (ps.any fun x => overB x s) = false := by
  rw [Bool.eq_false_iff]
  intro hc
  obtain ⟨p, hp, ho⟩ := List.any_eq_true.1 hc
  obtain ⟨i, hi, rfl⟩ := mem_nth hp
  rw [h i hi] at ho
  cases ho
theorem any_true {ps : List Pc} {s : Pc} {t : Nat} (ht : t < ps.length) (h : overB (nth ps t) s = true) : (ps.any fun x => overB x s) = true := List.any_eq_true.2 ⟨_, nth_mem ht, h⟩
theorem any_nth {ps : List Pc} {s : Pc} (h : (ps.any fun x => overB x s) = false) {t : Nat} (ht : t < ps.length) : overB (nth ps t) s = false := by
  rw [Bool.eq_false_iff] at h ⊢
  exact fun hc => h (any_true ht hc)
theorem put_iff (ps : List Pc) (s : Pc) : putB ps s = true ↔ aloneB s = true ∧ (ps.any fun x => overB x s) = false := by
  unfold putB
  simp only [Bool.and_eq_true, Bool.not_eq_true']
theorem putL_yes {ps : List Pc} {s : Pc} (h : putB ps s = true) : putL ps s = insV ps s := by unfold putL; rw [if_pos h]
theorem putL_no {ps : List Pc} {s : Pc} (h : putB ps s = false) : putL ps s = ps := by unfold putL; rw [h]; rfl
theorem val_ins {ps : List Pc} {s : Pc} (hv : Val ps) (h : putB ps s = true) : Val (insV ps s) := by
  obtain ⟨ha, ho⟩ := (put_iff ps s).1 h
  have hs := (alone_iff s).1 ha
  have hk := ahead_le ps s.1
  have low : ∀ p ∈ ps.take (aheadN ps s.1), p.1 + p.2 ≤ s.1 := by
    intro p hp
    obtain ⟨i, hi, e⟩ := List.getElem_of_mem hp
    rw [List.length_take] at hi
    rw [List.getElem_take] at e
    have hi2 : i < ps.length := by omega
    rw [nth_get hi2] at e
    have h1 := ahead_lt ps s.1 i (by omega)
    have h2 := (over_false _ _).1 (any_nth ho hi2)
    rw [e] at h1 h2
    omega
  have high : ∀ p ∈ ps.drop (aheadN ps s.1), s.1 + s.2 ≤ p.1 := by
    intro p hp
    obtain ⟨i, hi, e⟩ := List.getElem_of_mem hp
    rw [List.length_drop] at hi
    rw [List.getElem_drop] at e
    have hi2 : aheadN ps s.1 + i < ps.length := by omega
    rw [nth_get hi2] at e
    have h0 := ahead_at ps s.1 (by omega)
    have h1 : s.1 ≤ (nth ps (aheadN ps s.1 + i)).1 := by
      cases i with
      | zero => simpa using h0
      | succ i =>
        have := hv.lt (show aheadN ps s.1 < aheadN ps s.1 + (i + 1) by omega) hi2
        have := hv.pos (show aheadN ps s.1 < ps.length by omega)
        omega
    have h2 := (over_false _ _).1 (any_nth ho hi2)
    have h3 := hv.pos hi2
    rw [e] at h1 h2 h3
    omega
  refine ⟨?_, ?_⟩
  · intro p hp
    unfold insV at hp
    rcases List.mem_append.1 hp with hp | hp
    · exact hv.1 p (List.mem_of_mem_take hp)
    · rcases List.mem_cons.1 hp with rfl | hp
      · exact ha
      · exact hv.1 p (List.mem_of_mem_drop hp)
  · unfold insV
    refine List.pairwise_append.2 ⟨hv.2.take, List.pairwise_cons.2 ⟨high, hv.2.drop⟩, ?_⟩
    intro p hp q hq
    have h1 := low p hp
    rcases List.mem_cons.1 hq with rfl | hq
    · exact h1
    · have := high q hq; omega
theorem val_put {ps : List Pc} (hv : Val ps) (s : Pc) : Val (putL ps s) := by
  cases h : putB ps s with
  | true => rw [putL_yes h]; exact val_ins hv h
  | false => rw [putL_no h]; exact hv
theorem put_length (ps : List Pc) (s : Pc) : (putL ps s).length ≤ ps.length + 1 := by
  unfold putL
  split
  · rw [ins_length]; exact Nat.le_refl _
  · omega

/-! cut -/
def cutK (ps : List Pc) (a : Int) : Nat := ps.findIdx (fun p => p.1 == a)
def cutB (ps : List Pc) (a : Int) : Bool := decide (cutK ps a < ps.length)
def cutL (ps : List Pc) (a : Int) : List Pc := ps.eraseIdx (cutK ps a)
def cutP (ps : List Pc) (a : Int) : Pc := nth ps (cutK ps a)
theorem cutK_le (ps : List Pc) (a : Int) : cutK ps a ≤ ps.length := List.findIdx_le_length
theorem cut_none {ps : List Pc} {a : Int} (h : ∀ t, t < ps.length → (nth ps t).1 ≠ a) : cutK ps a = ps.length := by
  have h0 := cutK_le ps a
  rcases Nat.lt_or_ge (cutK ps a) ps.length with h1 | h1
  · exfalso
    have h2 := List.findIdx_getElem (p := fun p : Pc => p.1 == a) (w := h1)
    have h3 := h (cutK ps a) h1
    rw [← nth_get h1] at h3
    exact h3 (eq_of_beq h2)
  · omega
theorem cut_first {ps : List Pc} {a : Int} {j : Nat} (hj : j < ps.length) (h1 : ∀ t, t < j → (nth ps t).1 ≠ a) (h2 : (nth ps j).1 = a) : cutK ps a = j := by
  have hlt : cutK ps a < ps.length := List.findIdx_lt_length_of_exists ⟨nth ps j, nth_mem hj, by simpa using h2⟩
  have hk : (nth ps (cutK ps a)).1 = a := by
    have := List.findIdx_getElem (p := fun p : Pc => p.1 == a) (w := hlt)
    rw [← nth_get hlt]
    exact eq_of_beq this
  rcases Nat.lt_trichotomy (cutK ps a) j with h | h | h
  · exact absurd hk (h1 _ h)
  · exact h
  · have h3 : ((ps[j]).1 == a) = false := List.not_of_lt_findIdx (p := fun p : Pc => p.1 == a) (xs := ps) h
    rw [nth_get hj, h2] at h3
    rw [beq_self_eq_true a] at h3
    cases h3
theorem cut_val {ps : List Pc} (hv : Val ps) {a : Int} {j : Nat} (hj : j < ps.length) (h2 : (nth ps j).1 = a) : cutK ps a = j :=
  cut_first hj (fun t ht e => by have := hv.inj (by omega) hj (e.trans h2.symm); omega) h2
theorem cut_lt {ps : List Pc} {a : Int} (h : cutK ps a < ps.length) : (nth ps (cutK ps a)).1 = a := by
  have := List.findIdx_getElem (p := fun p : Pc => p.1 == a) (w := h)
  rw [← nth_get h]
  exact eq_of_beq this
theorem erase_eq {ps : List Pc} (i : Nat) : ps.eraseIdx i = ps.take i ++ ps.drop (i + 1) := List.eraseIdx_eq_take_drop_succ ps i
theorem erase_all {ps : List Pc} : ps.eraseIdx ps.length = ps := List.eraseIdx_of_length_le (Nat.le_refl _)
theorem val_erase {ps : List Pc} (hv : Val ps) (i : Nat) : Val (ps.eraseIdx i) :=
  ⟨fun p hp => hv.1 p (List.mem_of_mem_eraseIdx hp), hv.2.sublist (List.eraseIdx_sublist ps i)⟩
theorem erase_le (ps : List Pc) (i : Nat) : (ps.eraseIdx i).length ≤ ps.length := (List.eraseIdx_sublist ps i).length_le
end Go.Proofs.Ytegolecdmpikhaa
/- Marks, rising by where they begin: where one goes (aheadN), if it is there (hitM), what is put (putM), taken (takM), found (findM). Of no program. -/
namespace Go.Proofs.Ytegolecdmpikhaa

def Rise (ps : List Pc) : Prop := ps.Pairwise (fun p q => p.1 < q.1)
def hitM (ps : List Pc) (x : Int) : Bool := decide (aheadN ps x < ps.length) && decide ((nth ps (aheadN ps x)).1 = x)
/-- what lies behind x begins here -/
def nxM (ps : List Pc) (x : Int) : Nat := if hitM ps x then aheadN ps x + 1 else aheadN ps x
def putM (ps : List Pc) (m : Pc) : List Pc := ps.take (aheadN ps m.1) ++ m :: ps.drop (nxM ps m.1)
def takM (ps : List Pc) (x : Int) : List Pc := ps.take (aheadN ps x) ++ ps.drop (nxM ps x)
def clsM (ps : List Pc) (x : Int) : Int := if hitM ps x then (nth ps (aheadN ps x)).2 else 0
def findM (ps : List Pc) (x : Int) : Option Int := if hitM ps x then some (nth ps (aheadN ps x)).2 else none
theorem hit_iff {ps : List Pc} {x : Int} : hitM ps x = true ↔ aheadN ps x < ps.length ∧ (nth ps (aheadN ps x)).1 = x := by unfold hitM; simp
theorem rise_nil : Rise [] := List.Pairwise.nil
theorem rise_nth {ps : List Pc} (h : Rise ps) {i j : Nat} (hij : i < j) (hj : j < ps.length) : (nth ps i).1 < (nth ps j).1 := by
  have hi : i < ps.length := by omega
  rw [← nth_get hi, ← nth_get hj]
  exact List.pairwise_iff_getElem.1 h i j hi hj hij
theorem mem_take_nth {ps : List Pc} {k : Nat} {p : Pc} : p ∈ ps.take k ↔ ∃ i, i < k ∧ i < ps.length ∧ nth ps i = p := by
  constructor
  · intro h
    obtain ⟨i, hi, e⟩ := List.getElem_of_mem h
    rw [List.length_take] at hi
    refine ⟨i, by omega, by omega, ?_⟩
    rw [← nth_get (show i < ps.length by omega), ← e, List.getElem_take]
  · rintro ⟨i, h1, h2, rfl⟩
    rw [← nth_get h2]
    exact List.mem_take_iff_getElem.2 ⟨i, by omega, rfl⟩
theorem mem_drop_nth {ps : List Pc} {k : Nat} {p : Pc} : p ∈ ps.drop k ↔ ∃ i, k ≤ i ∧ i < ps.length ∧ nth ps i = p := by
  constructor
  · intro h
    obtain ⟨i, hi, e⟩ := List.getElem_of_mem h
    rw [List.length_drop] at hi
    refine ⟨k + i, by omega, by omega, ?_⟩
    rw [← nth_get (show k + i < ps.length by omega), ← e, List.getElem_drop]
  · rintro ⟨i, h1, h2, rfl⟩
    rw [← nth_get h2]
    exact List.mem_drop_iff_getElem.2 ⟨i - k, by omega, by congr 1; omega⟩
theorem nx_le (ps : List Pc) (x : Int) : nxM ps x ≤ ps.length := by
  unfold nxM
  split
  · rename_i h; have := (hit_iff.1 h).1; omega
  · exact ahead_le ps x
theorem ahead_nx (ps : List Pc) (x : Int) : aheadN ps x ≤ nxM ps x := by unfold nxM; split <;> omega
/-- what lies behind lies above -/
theorem nx_lt {ps : List Pc} (h : Rise ps) {x : Int} {i : Nat} (h1 : nxM ps x ≤ i) (h2 : i < ps.length) : x < (nth ps i).1 := by
  cases hh : hitM ps x with
  | true =>
    obtain ⟨g1, g2⟩ := hit_iff.1 hh
    unfold nxM at h1
    rw [hh, if_pos rfl] at h1
    have := rise_nth h (show aheadN ps x < i by omega) h2
    omega
  | false =>
    have e : nxM ps x = aheadN ps x := by unfold nxM; rw [hh]; rfl
    rw [e] at h1
    have ha := ahead_at ps x (by omega)
    have hne : (nth ps (aheadN ps x)).1 ≠ x := fun e => by
      have : hitM ps x = true := hit_iff.2 ⟨by omega, e⟩
      rw [hh] at this; cases this
    by_cases e2 : i = aheadN ps x
    · subst e2; omega
    · have := rise_nth h (show aheadN ps x < i by omega) h2
      omega
theorem mem_tak {ps : List Pc} (h : Rise ps) {x : Int} {p : Pc} : p ∈ takM ps x ↔ p ∈ ps ∧ p.1 ≠ x := by
  unfold takM
  rw [List.mem_append, mem_take_nth, mem_drop_nth]
  constructor
  · rintro (⟨i, h1, h2, rfl⟩ | ⟨i, h1, h2, rfl⟩)
    · have := ahead_lt ps x i h1
      exact ⟨nth_mem h2, by omega⟩
    · have := nx_lt h h1 h2
      exact ⟨nth_mem h2, by omega⟩
  · rintro ⟨hm, hne⟩
    obtain ⟨i, hi, rfl⟩ := mem_nth hm
    by_cases g : i < aheadN ps x
    · exact .inl ⟨i, g, hi, rfl⟩
    · refine .inr ⟨i, ?_, hi, rfl⟩
      unfold nxM
      split
      · rename_i hh
        have := (hit_iff.1 hh).2
        by_cases e : i = aheadN ps x
        · subst e; exact absurd this hne
        · omega
      · omega
theorem mem_put {ps : List Pc} (h : Rise ps) {m p : Pc} : p ∈ putM ps m ↔ p = m ∨ (p ∈ ps ∧ p.1 ≠ m.1) := by
  rw [← mem_tak h]
  unfold putM takM
  simp only [List.mem_append, List.mem_cons]
  constructor
  · rintro (h | h | h)
    · exact .inr (.inl h)
    · exact .inl h
    · exact .inr (.inr h)
  · rintro (h | h | h)
    · exact .inr (.inl h)
    · exact .inl h
    · exact .inr (.inr h)
theorem rise_tak {ps : List Pc} (h : Rise ps) (x : Int) : Rise (takM ps x) := by
  unfold takM
  refine List.pairwise_append.2 ⟨h.sublist (List.take_sublist _ _), h.sublist (List.drop_sublist _ _), fun p hp q hq => ?_⟩
  obtain ⟨i, h1, h2, rfl⟩ := mem_take_nth.1 hp
  obtain ⟨j, h3, h4, rfl⟩ := mem_drop_nth.1 hq
  have := ahead_lt ps x i h1
  have := nx_lt h h3 h4
  omega
theorem rise_put {ps : List Pc} (h : Rise ps) (m : Pc) : Rise (putM ps m) := by
  unfold putM
  refine List.pairwise_append.2 ⟨h.sublist (List.take_sublist _ _), List.pairwise_cons.2 ⟨fun q hq => ?_, h.sublist (List.drop_sublist _ _)⟩, fun p hp q hq => ?_⟩
  · obtain ⟨j, h3, h4, rfl⟩ := mem_drop_nth.1 hq
    exact nx_lt h h3 h4
  · obtain ⟨i, h1, h2, rfl⟩ := mem_take_nth.1 hp
    have := ahead_lt ps m.1 i h1
    rcases List.mem_cons.1 hq with rfl | hq
    · exact this
    · obtain ⟨j, h3, h4, rfl⟩ := mem_drop_nth.1 hq
      have := nx_lt h h3 h4
      omega
theorem putM_length (ps : List Pc) (m : Pc) : (putM ps m).length = ps.length + (if hitM ps m.1 then 0 else 1) := by
  have h1 := ahead_le ps m.1
  have h2 := nx_le ps m.1
  have e : nxM ps m.1 = if hitM ps m.1 then aheadN ps m.1 + 1 else aheadN ps m.1 := rfl
  unfold putM
  rw [List.length_append, List.length_cons, List.length_take, List.length_drop]
  split at e
  · rename_i h; rw [if_pos h]; omega
  · rename_i h; rw [if_neg h]; omega
theorem takM_length (ps : List Pc) (x : Int) : (takM ps x).length + (if hitM ps x then 1 else 0) = ps.length := by
  have h1 := ahead_le ps x
  have h2 := nx_le ps x
  have e : nxM ps x = if hitM ps x then aheadN ps x + 1 else aheadN ps x := rfl
  unfold takM
  rw [List.length_append, List.length_take, List.length_drop]
  split at e
  · rename_i h; rw [if_pos h]; omega
  · rename_i h; rw [if_neg h]; omega
theorem find_some {ps : List Pc} (h : Rise ps) {x c : Int} : findM ps x = some c ↔ (x, c) ∈ ps := by
  constructor
  · intro hf
    unfold findM at hf
    split at hf
    · rename_i hh
      obtain ⟨g1, g2⟩ := hit_iff.1 hh
      cases hf
      have := nth_mem g1
      rw [show nth ps (aheadN ps x) = (x, (nth ps (aheadN ps x)).2) from Prod.ext g2 rfl] at this
      exact this
    · cases hf
  · intro hm
    obtain ⟨i, hi, e⟩ := mem_nth hm
    have e1 : (nth ps i).1 = x := by rw [← e]
    have ea : aheadN ps x = i := ahead_eq (Nat.le_of_lt hi) (fun t ht => by have := rise_nth h ht hi; omega) (fun _ => by omega)
    have hh : hitM ps x = true := hit_iff.2 ⟨by rw [ea]; exact hi, by rw [ea]; exact e1⟩
    unfold findM
    rw [hh, if_pos rfl, ea, ← e]
theorem find_put {ps : List Pc} (h : Rise ps) (m : Pc) (k : Int) : findM (putM ps m) k = if k = m.1 then some m.2 else findM ps k := by
  apply Option.ext
  intro c
  rw [find_some (rise_put h m), mem_put h]
  by_cases e : k = m.1
  · rw [if_pos e]
    subst e
    constructor
    · rintro (h | ⟨_, h⟩)
      · rw [← h]
      · exact absurd rfl h
    · intro h; cases h; exact .inl rfl
  · rw [if_neg e, find_some h]
    constructor
    · rintro (h | ⟨h, _⟩)
      · rw [← h] at e; exact absurd rfl e
      · exact h
    · intro h; exact .inr ⟨h, e⟩
theorem find_tak {ps : List Pc} (h : Rise ps) (x k : Int) : findM (takM ps x) k = if k = x then none else findM ps k := by
  apply Option.ext
  intro c
  rw [find_some (rise_tak h x), mem_tak h]
  by_cases e : k = x
  · rw [if_pos e]
    constructor
    · rintro ⟨_, h⟩; exact absurd e h
    · intro h; cases h
  · rw [if_neg e, find_some h]
    exact ⟨fun h => h.1, fun h => ⟨h, e⟩⟩
theorem hit_find (ps : List Pc) (x : Int) : hitM ps x = (findM ps x).isSome := by
  unfold findM
  cases hitM ps x <;> rfl
theorem cls_find (ps : List Pc) (x : Int) : clsM ps x = (findM ps x).getD 0 := by
  unfold findM clsM
  cases hitM ps x <;> rfl
end Go.Proofs.Ytegolecdmpikhaa
/- Pairs of ints in memory: a slice of pairs that is read (SpansAt, SpansIn); pairs as cells (svals). Of no types of a program. -/
namespace Go.Proofs.Ytegolecdmpikhaa
open Go.RowKit

def In64 (p : Pc) : Prop := -9223372036854775808 ≤ p.1 ∧ p.1 ≤ 9223372036854775807 ∧ -9223372036854775808 ≤ p.2 ∧ p.2 ≤ 9223372036854775807
/-- a piece as a value -/
abbrev pv (p : Pc) : Value := .agg #[.int .i64 p.1, .int .i64 p.2]
theorem in64_zero : In64 (0, 0) := by unfold In64; decide
theorem in64_nth {ps : List Pc} (h : ∀ p ∈ ps, In64 p) (i : Nat) : In64 (nth ps i) := by
  rcases Nat.lt_or_ge i ps.length with hi | hi
  · exact h _ (nth_mem hi)
  · show In64 (ps.getD i (0, 0))
    rw [List.getD_eq_getElem?_getD, List.getElem?_eq_none hi]
    exact in64_zero
theorem Good.in64 {ps : List Pc} (h : Good ps) : ∀ p ∈ ps, In64 p := fun p hp => by
  have := (alone_iff p).1 (h p hp)
  unfold In64; omega

/-- a slice of pieces: where they lie -/
def SpansAt (w : World) (v : Value) (ps : List Pc) : Prop :=
  ∃ a cap, v = .slice a ps.length cap ∧ ps.length ≤ 1048576 ∧ ps.length ≤ cap ∧ cap ≤ 9223372036854775807 ∧ (∀ p ∈ ps, In64 p) ∧ (a = none → cap = 0) ∧
    ∀ i, i < ps.length → ∃ b o, a = some ⟨b, o, none⟩ ∧ w.cell? ⟨b, o + i * 2, none⟩ = some (.int .i64 (nth ps i).1) ∧ w.cell? ⟨b, o + i * 2 + 1, none⟩ = some (.int .i64 (nth ps i).2)
theorem SpansAt.fresh {w w' : World} {v : Value} {ps : List Pc} (h : SpansAt w v ps) (k : Fresh w w') : SpansAt w' v ps := by
  obtain ⟨a, cap, rfl, h1, h2, h3, h4, h5, hc⟩ := h
  refine ⟨a, cap, rfl, h1, h2, h3, h4, h5, fun i hi => ?_⟩
  obtain ⟨b, o, e, c0, c1⟩ := hc i hi
  exact ⟨b, o, e, (k.cell (World.block_lt_of_cell? _ _ c0)).trans c0, (k.cell (World.block_lt_of_cell? _ _ c1)).trans c1⟩
theorem SpansAt.drewN {w : World} {v : Value} {ps : List Pc} (h : SpansAt w v ps) (n : Nat) : SpansAt (w.drewN n) v ps := h
theorem SpansAt.drew {w : World} {v : Value} {ps : List Pc} (h : SpansAt w v ps) : SpansAt w.drew v ps := h
theorem SpansAt.in64 {w : World} {v : Value} {ps : List Pc} (h : SpansAt w v ps) : ∀ p ∈ ps, In64 p := by
  obtain ⟨a, cap, rfl, h1, h2, h3, h4, h5, hc⟩ := h
  exact h4
/-- nil, or a row that begins at a cell -/
def Plain (v : Value) : Prop := v = .slice none 0 0 ∨ ∃ b o n c, v = .slice (some ⟨b, o, none⟩) n c
def SpansIn (w : World) (v : Value) (ps : List Pc) : Prop := SpansAt w v ps ∧ Plain v
theorem SpansIn.fresh {w w' : World} {v : Value} {ps : List Pc} (h : SpansIn w v ps) (k : Fresh w w') : SpansIn w' v ps := ⟨h.1.fresh k, h.2⟩
/-- nil or not -/
theorem SpansIn.cases {w : World} {v : Value} {ps : List Pc} (h : SpansIn w v ps) : (v = .slice none 0 0 ∧ ps = []) ∨
    ∃ b o cap, v = .slice (some ⟨b, o, none⟩) ps.length cap ∧ ps.length ≤ 1048576 ∧ ps.length ≤ cap ∧ cap ≤ 9223372036854775807 ∧ (∀ p ∈ ps, In64 p) ∧
      ∀ i, i < ps.length → w.cell? ⟨b, o + i * 2, none⟩ = some (.int .i64 (nth ps i).1) ∧ w.cell? ⟨b, o + i * 2 + 1, none⟩ = some (.int .i64 (nth ps i).2) := by
  obtain ⟨⟨a, cap, rfl, h1, h2, h3, h4, h5, hc⟩, hp⟩ := h
  rcases hp with hp | ⟨b, o, n, c, hp⟩
  · simp at hp
    exact .inl ⟨by rw [hp.1, hp.2.2]; simp [hp.2.1], hp.2.1⟩
  · simp at hp
    obtain ⟨rfl, rfl, rfl⟩ := hp
    refine .inr ⟨b, o, cap, rfl, h1, h2, h3, h4, fun i hi => ?_⟩
    obtain ⟨b', o', e, c0, c1⟩ := hc i hi
    cases e
    exact ⟨c0, c1⟩
theorem spansIn_some {w : World} {b o cap : Nat} {ps : List Pc} (h1 : ps.length ≤ 1048576) (h2 : ps.length ≤ cap) (h3 : cap ≤ 9223372036854775807) (h4 : ∀ p ∈ ps, In64 p)
    (hc : ∀ i, i < ps.length → w.cell? ⟨b, o + i * 2, none⟩ = some (.int .i64 (nth ps i).1) ∧ w.cell? ⟨b, o + i * 2 + 1, none⟩ = some (.int .i64 (nth ps i).2)) : SpansIn w (.slice (some ⟨b, o, none⟩) ps.length cap) ps :=
  ⟨⟨_, cap, rfl, h1, h2, h3, h4, fun h => by simp at h, fun i hi => ⟨b, o, rfl, (hc i hi).1, (hc i hi).2⟩⟩, .inr ⟨b, o, _, _, rfl⟩⟩
theorem spansIn_nil (w : World) : SpansIn w (.slice none 0 0) [] := ⟨⟨none, 0, rfl, Nat.zero_le _, Nat.le_refl _, Nat.zero_le _, fun p hp => by simp at hp, fun _ => rfl, fun i hi => by simp at hi⟩, .inl rfl⟩

/-- pieces as cells -/
def svals : List Pc → List Value
  | [] => []
  | p :: r => .int .i64 p.1 :: .int .i64 p.2 :: svals r
theorem svals_length : ∀ ps : List Pc, (svals ps).length = ps.length * 2
  | [] => rfl
  | p :: r => by simp [svals, svals_length r]; omega
theorem svals_append : ∀ a b : List Pc, svals (a ++ b) = svals a ++ svals b
  | [], b => rfl
  | p :: r, b => by simp [svals, svals_append r b]
theorem svals_one : ∀ (ps : List Pc), ∀ u ∈ svals ps, u.oneCell' = true
  | [], u, hu => by simp [svals] at hu
  | p :: r, u, hu => by
    rcases List.mem_cons.1 hu with rfl | hu
    · rfl
    · rcases List.mem_cons.1 hu with rfl | hu
      · rfl
      · exact svals_one r u hu
theorem svals_get : ∀ (ps : List Pc) (i : Nat), i < ps.length → (svals ps)[i * 2]? = some (.int .i64 (nth ps i).1) ∧ (svals ps)[i * 2 + 1]? = some (.int .i64 (nth ps i).2)
  | [], i, h => by simp at h
  | p :: r, 0, _ => by simp [svals, nth]
  | p :: r, i + 1, h => by
    have := svals_get r i (by simpa using h)
    have e : (i + 1) * 2 = i * 2 + 1 + 1 := by omega
    rw [e]
    simpa [svals, nth] using this
/-- what an append reads of them -/
theorem SpansIn.news {w : World} {b o n cap : Nat} {ps : List Pc} (h : SpansIn w (.slice (some ⟨b, o, none⟩) n cap) ps) : ∀ j u, (svals ps)[j]? = some u → w.cell? ((⟨b, o, none⟩ : Addr).add j) = some u := by
  intro j u hu
  have hj : j < (svals ps).length := by
    rcases Nat.lt_or_ge j (svals ps).length with h | h
    · exact h
    · rw [List.getElem?_eq_none h] at hu; cases hu
  rw [svals_length] at hj
  rcases h.cases with ⟨e, _⟩ | ⟨b', o', cap', e, _, _, _, _, hc⟩
  · cases e
  · cases e
    obtain ⟨g0, g1⟩ := svals_get ps (j / 2) (by omega)
    obtain ⟨c0, c1⟩ := hc (j / 2) (by omega)
    rw [Go.WideShapes.add_plain b o j]
    rcases Nat.mod_two_eq_zero_or_one j with e | e
    · have ej : j / 2 * 2 = j := by omega
      rw [ej] at g0 c0
      rw [c0, ← g0, hu]
    · have ej : j / 2 * 2 + 1 = j := by omega
      rw [Nat.add_assoc, ej] at c1
      rw [ej] at g1
      rw [c1, ← g1, hu]

theorem nth_take {ps : List Pc} {k i : Nat} (h : i < k) : nth (ps.take k) i = nth ps i := by
  show (ps.take k).getD i (0, 0) = ps.getD i (0, 0)
  simp [List.getD_eq_getElem?_getD, h]
theorem nth_drop {ps : List Pc} {k i : Nat} : nth (ps.drop k) i = nth ps (k + i) := by
  show (ps.drop k).getD i (0, 0) = ps.getD (k + i) (0, 0)
  simp [List.getD_eq_getElem?_getD]
/-- the first k of them -/
theorem SpansIn.take {w : World} {b o n cap : Nat} {ps : List Pc} (h : SpansIn w (.slice (some ⟨b, o, none⟩) n cap) ps) {k : Nat} (hk : k ≤ ps.length) : SpansIn w (.slice (some ⟨b, o, none⟩) k cap) (ps.take k) := by
  rcases h.cases with ⟨e, _⟩ | ⟨b', o', cap', e, h1, h2, h3, h4, hc⟩
  · cases e
  · cases e
    have hl : (ps.take k).length = k := by rw [List.length_take]; omega
    have := spansIn_some (w := w) (b := b) (o := o) (cap := cap) (ps := ps.take k) (by omega) (by omega) h3 (fun p hp => h4 p (List.mem_of_mem_take hp)) (fun i hi => by
      rw [hl] at hi
      rw [nth_take hi]
      exact hc i (by omega))
    rwa [hl] at this
/-- those from k on -/
theorem SpansIn.drop {w : World} {b o n cap : Nat} {ps : List Pc} (h : SpansIn w (.slice (some ⟨b, o, none⟩) n cap) ps) {k : Nat} (hk : k ≤ ps.length) : SpansIn w (.slice (some ⟨b, o + k * 2, none⟩) (ps.length - k) (cap - k)) (ps.drop k) := by
  rcases h.cases with ⟨e, _⟩ | ⟨b', o', cap', e, h1, h2, h3, h4, hc⟩
  · cases e
  · cases e
    have hl : (ps.drop k).length = ps.length - k := List.length_drop
    have := spansIn_some (w := w) (b := b) (o := o + k * 2) (cap := cap - k) (ps := ps.drop k) (by omega) (by omega) (by omega) (fun p hp => h4 p (List.mem_of_mem_drop hp)) (fun i hi => by
      rw [hl] at hi
      rw [nth_drop]
      have := hc (k + i) (by omega)
      rw [show o + k * 2 + i * 2 = o + (k + i) * 2 by omega]
      exact this)
    rwa [hl] at this

/-- as Go slices them -/
theorem SpansIn.dropIf {w : World} {b o n cap : Nat} {ps : List Pc} (h : SpansIn w (.slice (some ⟨b, o, none⟩) n cap) ps) {k : Nat} (hk : k ≤ ps.length) : SpansIn w (.slice (if cap = k then some ⟨b, o, none⟩ else some ⟨b, o + k * 2, none⟩) (ps.length - k) (cap - k)) (ps.drop k) := by
  by_cases e : cap = k
  · rw [if_pos e]
    rcases h.cases with ⟨e', _⟩ | ⟨b', o', cap', e', h1, h2, h3, h4, hc⟩
    · cases e'
    · cases e'
      have e1 : ps.length - k = 0 := by omega
      have e2 : ps.drop k = [] := List.drop_eq_nil_of_le (by omega)
      rw [e1, e2]
      exact spansIn_some (ps := []) (by simp) (by simp) (by omega) (fun p hp => by simp at hp) (fun i hi => by simp at hi)
  · rw [if_neg e]
    exact h.drop hk
/-- the cells of a mark -/
theorem SpansIn.cell {w : World} {a : Option Addr} {n cap : Nat} {ps : List Pc} (h : SpansIn w (.slice a n cap) ps) (i : Nat) (hi : i < ps.length) : ∃ b o, a = some ⟨b, o, none⟩ ∧ w.cell? ⟨b, o + i * 2, none⟩ = some (.int .i64 (nth ps i).1) ∧ w.cell? ⟨b, o + i * 2 + 1, none⟩ = some (.int .i64 (nth ps i).2) := by
  rcases h.cases with ⟨_, rfl⟩ | ⟨b, o, c, e, _, _, _, _, hc⟩
  · simp at hi
  · cases e
    exact ⟨b, o, rfl, hc i hi⟩
end Go.Proofs.Ytegolecdmpikhaa
/- Marks in memory: a slice of marks in new memory of a call (OwnM). -/
namespace Go.Proofs.Ytegolecdmpikhaa
open Go.RowKit

/-- marks in new memory of a call -/
def OwnM (w : World) (base : Nat) (v : Value) (ps : List Pc) : Prop := w.ownsRow base 37 2 v ps.length (svals ps)
theorem OwnM.fresh {w w' : World} {base : Nat} {v : Value} {ps : List Pc} (h : OwnM w base v ps) (k : Fresh w w') : OwnM w' base v ps := ownsRow_fresh h k
theorem OwnM.turn {w w' : World} {base : Nat} {v : Value} {ps : List Pc} (h : OwnM w base v ps) (hw : ∀ k, base ≤ k → k < w.heap.size → w'.heap[k]? = w.heap[k]?) : OwnM w' base v ps := by
  refine ⟨h.1, ?_⟩
  rcases h.2 with e | ⟨g, cap, cur, e, hb, hg, r⟩
  · exact .inl e
  · exact .inr ⟨g, cap, cur, e, hb, (hw g hb (Array.getElem?_eq_some_iff.1 hg).1).trans hg, r⟩
theorem OwnM.mono {w : World} {base base' : Nat} {v : Value} {ps : List Pc} (h : OwnM w base v ps) (hb : base' ≤ base) : OwnM w base' v ps := ownsRow_mono h hb
theorem OwnM.nil (w : World) (base : Nat) : OwnM w base (.slice none 0 0) [] := World.ownsRow_nil _ _ _ _
theorem OwnM.at {w : World} {base : Nat} {v : Value} {ps : List Pc} (h : OwnM w base v ps) (hl : ps.length ≤ 1048576) (hi : ∀ p ∈ ps, In64 p) : SpansIn w v ps := by
  have h0 := h
  rcases h.2 with ⟨rfl, hn⟩ | ⟨g, cap, cur, rfl, hb, hg, hc, hm, _⟩
  · have : ps = [] := List.eq_nil_of_length_eq_zero hn
    subst this
    exact spansIn_nil w
  · refine spansIn_some hl hc hm hi fun i hi => ?_
    have c0 := World.ownsRow.cellAt h0 (i * 2) (by omega)
    have c1 := World.ownsRow.cellAt h0 (i * 2 + 1) (by omega)
    rw [Nat.zero_add, c0, c1]
    exact svals_get ps i hi
theorem OwnM.setCell {w : World} {base : Nat} {v : Value} {ps : List Pc} (h : OwnM w base v ps) {b : Nat} (hb : b < base) (j : Nat) (u : Value) : OwnM (w.setCell ⟨b, j, none⟩ u) base v ps := by
  refine ownsRow_setCell_other h ?_ u
  intro e
  rcases h.2 with ⟨rfl, _⟩ | ⟨g, cap, cur, rfl, hg, _⟩
  · cases e
  · have : g = b := by simpa [Value.ownBlock] using e
    omega
theorem OwnM.block {w : World} {base : Nat} {v : Value} {ps : List Pc} (h : OwnM w base v ps) (i : Nat) (hi : v.ownBlock = some i) : base ≤ i := by
  rcases h.2 with ⟨rfl, _⟩ | ⟨g, cap, cur, rfl, hb, _⟩
  · cases hi
  · have : g = i := by simpa [Value.ownBlock] using hi
    omega
theorem infoMark : (Try.prog.info? 37).map (fun i => (i.zero, i.size, i.bytes)) = some (some (.agg #[.int .i64 0, .int .i64 0]), 2, 16) := by kernel_rfl
/-- one more -/
theorem ownM_push {w' : World} {base : Nat} {v' : Value} {ps : List Pc} {p1 p2 : Int} (hown : w'.ownsRow base 37 2 v' (ps.length + 1) (svals ps ++ [.int .i64 p1, .int .i64 p2])) : OwnM w' base v' (ps ++ [(p1, p2)]) := by
  unfold OwnM
  rw [svals_append, List.length_append]
  exact hown
theorem mark_news (w : World) (s1 s2 : Int) : ∀ j u, [Value.int .i64 s1, .int .i64 s2][j]? = some u → (w.alloc (.cells #[.int .i64 s1, .int .i64 s2] 37)).cell? ((⟨w.heap.size, 0, none⟩ : Addr).add j) = some u := by
  intro j u hu
  have hb := heap_alloc_new w (.cells #[.int .i64 s1, .int .i64 s2] 37 (0, 0))
  rw [Go.WideShapes.add_plain, Nat.zero_add]
  match j, hu with
  | 0, hu => exact cell_block hb 0 _ hu
  | 1, hu => exact cell_block hb 1 _ hu
  | j + 2, hu => simp at hu
theorem mark_one (s1 s2 : Int) : ∀ u ∈ [Value.int .i64 s1, .int .i64 s2], u.oneCell' = true := by
  intro u hu
  simp at hu
  rcases hu with rfl | rfl <;> rfl
theorem OwnM.grown {w w1 : World} {base : Nat} {W : World} {v : Value} {ps : List Pc} (h : OwnM w base v ps) (hW : W.heap.size ≤ base) (f : Fresh W w) (hg : w.grownBy w1 v.ownBlock) : Fresh W w1 :=
  f.grown hg f.size fun i hi => Nat.le_trans hW (h.block i hi)
theorem OwnM.shape {w : World} {base : Nat} {v : Value} {ps : List Pc} (h : OwnM w base v ps) : ∃ a cap, v = .slice a ps.length cap := by
  rcases h.2 with ⟨rfl, hn⟩ | ⟨g, cap, cur, rfl, _⟩
  · exact ⟨none, 0, by rw [hn]⟩
  · exact ⟨_, cap, rfl⟩
end Go.Proofs.Ytegolecdmpikhaa
/- What the document's own SameMarks answers (hodmanref8), as a contract. -/
namespace Go.Proofs.Ytegolecdmpikhaa
open Go.RowKit

theorem marks_ext {xs ys : List Pc} (hl : xs.length = ys.length) (h : ∀ k, k < xs.length → nth xs k = nth ys k) : xs = ys := by
  apply List.ext_getElem hl
  intro k h1 h2
  rw [nth_get h1, nth_get h2]
  exact h k h1
set_option maxRecDepth 100000 in
set_option maxHeartbeats 1000000 in
theorem msame_any (v u : Value) (xs ys : List Pc) (w : World) (h : SpansAt w v xs) (k : SpansAt w u ys) :
    Calls Try.prog 20 #[v, u] w fun e w' => e = .returned (.bool (decide (xs = ys))) ∧ ∃ n, w' = w.drewN n := by
  obtain ⟨a, cap, rfl, hl, hl2, hl3, h4, hn0, hc⟩ := h
  obtain ⟨b, cap2, rfl, kl, kl2, kl3, k4, kn0, kc⟩ := k
  have HC := hide hc
  have KC := hide kc
  clear hc kc hn0 kn0 h4 k4 hl2 hl3 kl2 kl3
  by_cases hlen : xs.length = ys.length
  · have hl0 : (0 : Int) ≤ (xs.length : Int) := by omega
    have hl1 : (xs.length : Int) ≤ 1048576 := by omega
    have L := hide hlen
    rw [← hlen]
    clear hlen kl
    go_enter Try.func20, Try.ntmps20
    go_wp2
    go_loopw [5] (fun i w2 => ∃ (j m : Nat), j ≤ xs.length ∧ i = .int .i64 (j : Int) ∧ w2 = w.drewN m ∧ ∀ t, t < j → nth xs t = nth ys t) (fun i _ => (xs.length - intOf i).toNat)
    case atStart => exact ⟨0, 0, Nat.zero_le _, rfl, rfl, fun t ht => by omega⟩
    case round =>
      obtain ⟨j, m, hj, rfl, rfl, hall⟩ := hrel
      have A := hide hall
      clear hall
      by_cases g : j < xs.length
      · obtain ⟨x, o, rfl, hx, hx1⟩ := HC.out j g
        obtain ⟨y, p, rfl, hy, hy1⟩ := KC.out j (by have := L.out; omega)
        have g' : (j : Int) < (xs.length : Int) := by omega
        have j0 : (0 : Int) ≤ (j : Int) := by omega
        by_cases he : nth xs j = nth ys j
        · have E := hide (show ∀ t, t < j + 1 → nth xs t = nth ys t from fun t ht => by
            rcases Nat.lt_or_ge t j with h | h
            · exact A.out t h
            · rw [show t = j by omega]; exact he)
          rw [he] at hx hx1
          clear he A
          generalize nth ys j = c at *
          obtain ⟨c1, c2⟩ := c
          simp only at hx hx1 hy hy1
          go_wp2_with fail
          go_quiet (fail)
          go_wp2
          go_roundw
          case rel => exact ⟨j + 1, _, by omega, by go_num, rfl, E.out⟩
          case measure => simp [intOf]; omega
        · have D2 := hide (show xs ≠ ys from fun e => he (by rw [e]))
          generalize nth xs j = d at *
          generalize nth ys j = c at *
          obtain ⟨c1, c2⟩ := c
          obtain ⟨d1, d2⟩ := d
          simp only at hx hx1 hy hy1
          have HE := hide he
          clear he
          by_cases z1 : d1 = c1
          · have z2 : (d2 == c2) = false := by rw [beq_eq_false_iff_ne]; exact fun e => HE.out (by rw [z1, e])
            subst z1
            go_wp2_with fail
            go_quiet (fail)
            go_wp2
            go_ret
            exact ⟨retB (decide_eq_false D2.out).symm, _, World.drewN_drewN w _ _⟩
          · have z2 : (d1 == c1) = false := by rw [beq_eq_false_iff_ne]; exact z1
            go_wp2_with fail
            go_quiet (fail)
            go_wp2
            go_ret
            exact ⟨retB (decide_eq_false D2.out).symm, _, World.drewN_drewN w _ _⟩
      · obtain rfl : j = xs.length := by omega
        have E := hide (marks_ext L.out A.out)
        go_wp2
        go_ret
        exact ⟨retB (decide_eq_true E.out).symm, _, rfl⟩
  · have D2 := hide (show xs ≠ ys from fun e => hlen (by rw [e]))
    have z : ((xs.length : Int) == (ys.length : Int)) = false := by rw [beq_eq_false_iff_ne]; omega
    clear hlen
    go_enter Try.func20, Try.ntmps20
    go_wp2
    go_ret
    exact ⟨retB (decide_eq_false D2.out).symm, 0, rfl⟩
theorem msame_to (v u : Value) (xs ys : List Pc) (r : Bool) (hr : decide (xs = ys) = r) (w : World) (h : SpansAt w v xs) (k : SpansAt w u ys) :
    Calls Try.prog 20 #[v, u] w fun e w' => e = .returned (.bool r) ∧ ∃ n, w' = w.drewN n := by
  subst hr
  exact msame_any v u xs ys w h k
end Go.Proofs.Ytegolecdmpikhaa
/- What the document's own TakeMark and ClassOf answer (hodmanref8), as contracts. -/
namespace Go.Proofs.Ytegolecdmpikhaa
open Go.RowKit

theorem empty_mark (w : World) (t : TypeId) {p : World → Prop} (h : ∀ w5, w5.ownsRow w.heap.size t 2 (.slice (some ⟨w.heap.size, 0, none⟩) 0 0) 0 [] → Fresh w w5 → p w5) : p (w.alloc (.cells #[] t)) :=
  h _ (World.ownsRow_lit w #[] 0 (Nat.le_refl _) (Nat.zero_le _) rfl) (fresh_box _ _ _)
theorem ownM_first {w' : World} {base : Nat} {v' : Value} {ps : List Pc} {m : Nat} (hm : m = ps.length) (hown : w'.ownsRow base 37 2 v' (0 + m) ([] ++ svals ps)) : OwnM w' base v' ps := by
  subst hm
  rw [Nat.zero_add, List.nil_append] at hown
  exact hown
theorem ownM_then {w' : World} {base : Nat} {v' : Value} {ps qs : List Pc} {m : Nat} (hm : m = qs.length) (hown : w'.ownsRow base 37 2 v' (ps.length + m) (svals ps ++ svals qs)) : OwnM w' base v' (ps ++ qs) := by
  subst hm
  unfold OwnM
  rw [svals_append, List.length_append]
  exact hown
theorem wrapN {i : Nat} (h : i ≤ 2000000) : IntKind.i64.wrap ((i : Int) + 1) = ((i + 1 : Nat) : Int) := by rw [IntKind.wrap_i64]; omega
/-- a mark that is read -/
def HeldK (W : World) (b o : Nat) (p2 : Int) (w : World) : Prop := w.cell? ⟨b, o + 1, none⟩ = some (.int .i64 p2) ∧ Fresh W w
theorem HeldK.fresh {W : World} {b o : Nat} {p2 : Int} {w w' : World} (h : HeldK W b o p2 w) (k : Fresh w w') : HeldK W b o p2 w' := ⟨(k.cell (World.block_lt_of_cell? _ _ h.1)).trans h.1, h.2.trans k⟩
theorem take_hit {ps : List Pc} (h : Rise ps) {x : Int} {i : Nat} (hi : i < ps.length) (hx : (nth ps i).1 = x) : aheadN ps x = i ∧ hitM ps x = true ∧ nxM ps x = i + 1 := by
  have ea : aheadN ps x = i := ahead_eq (Nat.le_of_lt hi) (fun t ht => by have := rise_nth h ht hi; omega) (fun _ => by omega)
  have hh : hitM ps x = true := hit_iff.2 ⟨by rw [ea]; exact hi, by rw [ea]; exact hx⟩
  exact ⟨ea, hh, by unfold nxM; rw [hh, if_pos rfl, ea]⟩
theorem take_miss {ps : List Pc} {x : Int} (h : ∀ t, t < ps.length → (nth ps t).1 ≠ x) : hitM ps x = false ∧ takM ps x = ps := by
  have hh : hitM ps x = false := by
    rw [Bool.eq_false_iff]
    intro e
    obtain ⟨h1, h2⟩ := hit_iff.1 e
    exact h _ h1 h2
  exact ⟨hh, by unfold takM nxM; rw [hh]; exact List.take_append_drop _ _⟩
theorem tak_in {ps : List Pc} (h : ∀ p ∈ ps, In64 p) (x : Int) : ∀ p ∈ takM ps x, In64 p := fun p hp => by
  unfold takM at hp
  rcases List.mem_append.1 hp with hp | hp
  · exact h p (List.mem_of_mem_take hp)
  · exact h p (List.mem_of_mem_drop hp)

set_option maxRecDepth 100000 in
set_option maxHeartbeats 1000000 in
theorem rtake_any (v : Value) (ps : List Pc) (x : Int) (w : World) (h : SpansIn w v ps) (hr : Rise ps) (hl : ps.length ≤ 1000000) :
    Calls Try.prog 31 #[v, .int .i64 x] w fun e w' => ∃ u, e = .returned (.tuple #[u, .int .i64 (clsM ps x), .bool (hitM ps x)]) ∧ SpansIn w' u (takM ps x) ∧ Fresh w w' ∧ (hitM ps x = true → OwnM w' w.heap.size u (takM ps x)) := by
  obtain ⟨i0, hi, hz0, hz1, hz2⟩ := infoOf infoMark
  have H1 := hide h
  have I64 := hide h.1.in64
  have LE := hide hl
  have RI := hide hr
  obtain ⟨a, cap, rfl, _, hl2, hl3, h4, hn0, hc⟩ := h.1
  have l0 : (0 : Int) ≤ (ps.length : Int) := by omega
  have l1 : (ps.length : Int) ≤ 1000000 := by omega
  clear h hl2 hl3 h4 hn0 hc hl hr
  go_enter Try.func31, Try.ntmps31
  go_wp2
  go_loop [7] (fun i => ∃ j : Nat, j ≤ ps.length ∧ i = .int .i64 (j : Int) ∧ ∀ t, t < j → (nth ps t).1 ≠ x) (fun i => (ps.length - intOf i).toNat)
  case atStart => exact ⟨0, Nat.zero_le _, rfl, fun t ht => by omega⟩
  case round =>
    obtain ⟨i, hj, rfl, hall⟩ := hrel
    have A := hide hall
    clear hall
    by_cases g : i < ps.length
    · have i2 : (i : Int) < (ps.length : Int) := by omega
      have i1 : (0 : Int) ≤ (i : Int) := by omega
      rcases H1.out.cases with ⟨_, rfl⟩ | ⟨b, o, cap', e, h1, h2, h3, h4, hc⟩
      · simp at g
      cases e
      obtain ⟨c0, c1⟩ := hc i g
      have b1 : b < w.heap.size := World.block_lt_of_cell? _ _ c0
      by_cases hx : (nth ps i).1 = x
      · obtain ⟨ea, hh, en⟩ := take_hit RI.out g hx
        have CB := hide hh
        have CP := hide (show clsM ps x = (nth ps i).2 by unfold clsM; rw [hh, if_pos rfl, ea])
        have CL := hide (show takM ps x = ps.take i ++ ps.drop (i + 1) by unfold takM; rw [ea, en])
        have PT0 := hide (H1.out.take (k := i) (Nat.le_of_lt g))
        have PT1 := hide (H1.out.dropIf (k := i + 1) g)
        have T0 := hide (show i = (ps.take i).length by rw [List.length_take]; omega)
        have T1 := hide (show ps.length - (i + 1) = (ps.drop (i + 1)).length by rw [List.length_drop])
        obtain ⟨o', hA⟩ : ∃ o', (if cap = i + 1 then some (⟨b, o, none⟩ : Addr) else some ⟨b, o + (i + 1) * 2, none⟩) = some ⟨b, o', none⟩ := by split <;> exact ⟨_, rfl⟩
        rw [hA] at PT1
        have LL := hide (show (takM ps x).length ≤ 1048576 by rw [CL.out]; have := LE.out; simp; omega)
        have IL := hide (tak_in I64.out x)
        generalize nth ps i = p at *
        obtain ⟨p1, p2⟩ := p
        simp only at c0 c1 hx CP
        have d1 : (p1 == x) = true := by simp [hx]
        have i3 : (ps.length : Int) ≤ (cap : Int) := by omega
        have i4 : (cap : Int) ≤ 9223372036854775807 := by omega
        have i6 : i ≤ cap := by omega
        have i7 : i + 1 ≤ ps.length := by omega
        have i8 : IntKind.i64.wrap ((i : Int) + 1) = ((i + 1 : Nat) : Int) := wrapN (by omega)
        have i9 : (0 : Int) ≤ (i : Int) + 1 := by omega
        have i10 : (i : Int) + 1 ≤ (ps.length : Int) := by omega
        have C0 := hide (show HeldK w b (o + i * 2) p2 w from ⟨c1, Fresh.refl _⟩)
        have HS : Hid (HeldK w b (o + i * 2) p2 w.drew) := C0.out.fresh (Fresh.refl _).drew
        have FD : Hid (Fresh w w.drew) := (Fresh.refl _).drew
        clear hc h1 h2 h3 h4 hh ea en hx
        go_wp2_with fail
        refine wp_region_held (S := HeldK w b (o + i * 2) p2) (by kernel_rfl) ?_
        change wpAnyH _ _ _ _ _ _ _ _ (World.drew _)
        generalize World.drew w = wd at HS FD ⊢
        refine held_take (i := 1) (d := 22) (v := ?_) rfl rfl (by kernel_rfl) (by kernel_rfl) (by kernel_rfl) (fun _ _ _ h => h) (by kernel_rfl) ?_ HS.out ?_
        rotate_left
        · intro wz hz
          obtain ⟨z1, -⟩ := hz
          go_simp
          first | done | with_reducible rfl
        refine held_take (i := 2) (d := 23) (v := ?_) rfl rfl (by kernel_rfl) (by kernel_rfl) (by kernel_rfl) (fun _ _ _ h => h) (by kernel_rfl) ?_ HS.out ?_
        rotate_left
        · intro wz hz
          obtain ⟨z1, -⟩ := hz
          go_simp
          first | done | with_reducible rfl
        refine held_take (i := 3) (d := 24) (v := ?_) rfl rfl (by kernel_rfl) (by kernel_rfl) (by kernel_rfl) (fun _ _ _ h => h) (by kernel_rfl) ?_ HS.out ?_
        rotate_left
        · intro wz hz
          obtain ⟨z1, -⟩ := hz
          go_simp
          first | done | with_reducible rfl
        refine held_take (i := 5) (d := 26) (v := ?_) rfl rfl (by kernel_rfl) (by kernel_rfl) (by kernel_rfl) (fun _ _ _ h => h) (by kernel_rfl) ?_ HS.out ?_
        rotate_left
        · intro wz hz
          obtain ⟨z1, -⟩ := hz
          go_simp
          first | done | with_reducible rfl
        refine held_take (i := 6) (d := 27) (v := ?_) rfl rfl (by kernel_rfl) (by kernel_rfl) (by kernel_rfl) (fun _ _ _ h => h) (by kernel_rfl) ?_ HS.out ?_
        rotate_left
        · intro wz hz
          obtain ⟨z1, -⟩ := hz
          go_simp
          first | done | with_reducible rfl
        refine held_take (i := 7) (d := 28) (v := ?_) rfl rfl (by kernel_rfl) (by kernel_rfl) (by kernel_rfl) (fun _ _ _ h => h) (by kernel_rfl) ?_ HS.out ?_
        rotate_left
        · intro wz hz
          obtain ⟨z1, -⟩ := hz
          go_simp
          first | done | with_reducible rfl
        refine held_take (i := 8) (d := 29) (v := ?_) rfl rfl (by kernel_rfl) (by kernel_rfl) (by kernel_rfl) (fun _ _ _ h => h) (by kernel_rfl) ?_ HS.out ?_
        rotate_left
        · intro wz hz
          obtain ⟨z1, -⟩ := hz
          go_simp
          first | done | with_reducible rfl
        refine held_take (i := 10) (d := 31) (v := ?_) rfl rfl (by kernel_rfl) (by kernel_rfl) (by kernel_rfl) (fun _ _ _ h => h) (by kernel_rfl) ?_ HS.out ?_
        rotate_left
        · intro wz hz
          obtain ⟨z1, -⟩ := hz
          go_simp
          first | done | with_reducible rfl
        refine held_take (i := 11) (d := 32) (v := ?_) rfl rfl (by kernel_rfl) (by kernel_rfl) (by kernel_rfl) (fun _ _ _ h => h) (by kernel_rfl) ?_ HS.out ?_
        rotate_left
        · intro wz hz
          obtain ⟨z1, -⟩ := hz
          go_simp
          first | done | with_reducible rfl
        refine held_take (i := 12) (d := 33) (v := ?_) rfl rfl (by kernel_rfl) (by kernel_rfl) (by kernel_rfl) (fun _ _ _ h => h) (by kernel_rfl) ?_ HS.out ?_
        rotate_left
        · intro wz hz
          obtain ⟨z1, -⟩ := hz
          go_simp
          first | done | with_reducible rfl
        refine held_take (i := 13) (d := 34) (v := ?_) rfl rfl (by kernel_rfl) (by kernel_rfl) (by kernel_rfl) (fun _ _ _ h => h) (by kernel_rfl) ?_ HS.out ?_
        rotate_left
        · intro wz hz
          obtain ⟨z1, -⟩ := hz
          go_simp
          first | done | with_reducible rfl
        refine held_take (i := 14) (d := 35) (v := ?_) rfl rfl (by kernel_rfl) (by kernel_rfl) (by kernel_rfl) (fun _ _ _ h => h) (by kernel_rfl) ?_ HS.out ?_
        rotate_left
        · intro wz hz
          obtain ⟨z1, -⟩ := hz
          go_simp
          first | done | with_reducible rfl
        have HD := HS
        refine wpAnyH_ready (rs := [0]) (by kernel_rfl) (by simp) ?_
        refine AllReadyH.cons rfl (fun K hK => ?_) AllReadyH.nil
        go_simp
        refine empty_mark _ _ ?_; intro w5 ho5 k5; have O5 := hide ho5; have K5 := hide k5; have HS' := hide (HD.out.fresh k5); clear HS k5 ho5; have HS := HS'; clear HS'
        refine hK.out _ _ HS.out (fun _ => ?_)
        clear hK K
        refine wpAnyH_ready (rs := [4]) (by kernel_rfl) (by simp) ?_
        refine AllReadyH.cons rfl (fun K hK => ?_) AllReadyH.nil
        rw [if_pos (by rfl)]
        refine wp_append_own _ _ _ 27 rfl wd.heap.size 37 i0 (.agg #[.int .i64 0, .int .i64 0]) 2 16 Try.underlying27 hi hz0 hz1 hz2 rfl (by decide) _ _ _ rfl O5.out ⟨b, o, none⟩ i cap (svals (ps.take i)) rfl (by rw [svals_length, ← T0.out]) (PT0.out.fresh (FD.out.trans K5.out)).news (svals_one _) (by have := LE.out; unfold maxLen; omega) (by have := LE.out; omega) K5.out.size ?_; intro v6 w6 hown hgrow _; have O6 := hide (ownM_first T0.out hown); have K6 := hide (show Fresh wd w6 from K5.out.grown hgrow K5.out.size (fun q hq => by cases hq; exact Nat.le_refl _)); have HS' := hide (HD.out.fresh K6.out); clear HS hown hgrow; have HS := HS'; clear HS'
        refine hK.out _ _ HS.out (fun _ => ?_)
        clear hK K
        refine wpAnyH_ready (rs := [9]) (by kernel_rfl) (by simp) ?_
        refine AllReadyH.cons rfl (fun K hK => ?_) AllReadyH.nil
        rw [if_pos (by rfl)]
        refine wp_append_own _ _ _ 27 rfl wd.heap.size 37 i0 (.agg #[.int .i64 0, .int .i64 0]) 2 16 Try.underlying27 hi hz0 hz1 hz2 rfl (by decide) _ _ _ rfl O6.out ⟨b, o', none⟩ (ps.length - (i + 1)) (cap - (i + 1)) (svals (ps.drop (i + 1))) rfl (by rw [svals_length, ← T1.out]) (PT1.out.fresh (FD.out.trans K6.out)).news (svals_one _) (by have := LE.out; rw [← T0.out]; unfold maxLen; omega) (by have := LE.out; rw [← T0.out]; omega) K6.out.size ?_; intro v7 w7 hown hgrow _; have O7 := hide (ownM_then T1.out hown); have K7 := hide (show Fresh wd w7 from K6.out.grown hgrow K6.out.size (fun q hq => O6.out.block q hq)); have HS' := hide (HD.out.fresh K7.out); clear HS hown hgrow; have HS := HS'; clear HS'
        refine hK.out _ _ HS.out (fun _ => ?_)
        clear hK K
        simp only [List.getElem_toArray, List.getElem_cons_succ, List.getElem_cons_zero, Act.put, List.setIfInBounds_toArray, List.set_cons_succ, List.set_cons_zero]
        refine held_take (i := 15) (d := 4) (v := ?_) rfl rfl (by kernel_rfl) (by kernel_rfl) (by kernel_rfl) (fun _ _ _ h => h) (by kernel_rfl) ?_ HS.out ?_
        rotate_left
        · intro wz hz
          obtain ⟨z1, -⟩ := hz
          go_simp
          first | done | with_reducible rfl
        refine held_take (i := 16) (d := 5) (v := ?_) rfl rfl (by kernel_rfl) (by kernel_rfl) (by kernel_rfl) (fun _ _ _ h => h) (by kernel_rfl) ?_ HS.out ?_
        rotate_left
        · intro wz hz
          obtain ⟨z1, -⟩ := hz
          go_simp
          first | done | with_reducible rfl
        refine held_take (i := 17) (d := 6) (v := ?_) rfl rfl (by kernel_rfl) (by kernel_rfl) (by kernel_rfl) (fun _ _ _ h => h) (by kernel_rfl) ?_ HS.out ?_
        rotate_left
        · intro wz hz
          obtain ⟨z1, -⟩ := hz
          go_simp
          first | done | with_reducible rfl
        refine wpAnyH_done (by kernel_rfl) ?_ _
        try simp only [Act.put, List.setIfInBounds_toArray, List.set_cons_succ, List.set_cons_zero]
        go_wp2
        go_returns
        exact ⟨v7, by rw [CB.out, CP.out]; rfl, by rw [CL.out] at *; exact O7.out.at (by rw [← CL.out]; exact LL.out) (by rw [← CL.out]; exact IL.out), FD.out.trans K7.out, fun _ => by rw [CL.out]; exact O7.out.mono FD.out.size⟩
      · have A2 := hide (show ∀ t, t < i + 1 → (nth ps t).1 ≠ x from fun t ht => by
          rcases Nat.lt_or_ge t i with h | h
          · exact A.out t h
          · rw [show t = i by omega]; exact hx)
        have d1 : ((nth ps i).1 == x) = false := by rw [beq_eq_false_iff_ne]; exact hx
        clear hx hc h1 h2 h3 h4
        generalize nth ps i = p at *
        go_wp2
        go_round
        case rel => exact ⟨i + 1, by omega, by go_num, A2.out⟩
        case measure => simp [intOf]; omega
    · obtain rfl : i = ps.length := by omega
      obtain ⟨m1, m2⟩ := take_miss A.out
      have CB := hide m1
      have CL := hide m2
      have CP := hide (show clsM ps x = 0 by unfold clsM; rw [m1]; rfl)
      clear m1 m2
      go_wp2
      go_returns
      exact ⟨_, by rw [CB.out, CP.out]; rfl, by rw [CL.out]; exact H1.out, Fresh.refl _, fun h => by rw [CB.out] at h; cases h⟩
end Go.Proofs.Ytegolecdmpikhaa
/- What the document's own PutMark answers (hodmanref8), as a contract. -/
namespace Go.Proofs.Ytegolecdmpikhaa
open Go.RowKit

/-- what has been laid of the first j -/
def outM (ps : List Pc) (s : Pc) (j : Nat) : List Pc := if aheadN ps s.1 < j then ps.take (aheadN ps s.1) ++ s :: (ps.take j).drop (nxM ps s.1) else ps.take j
theorem outM_zero (ps : List Pc) (s : Pc) : outM ps s 0 = [] := by unfold outM; rw [if_neg (by omega)]; rfl
theorem outM_length (ps : List Pc) (s : Pc) (j : Nat) : (outM ps s j).length ≤ ps.length + 1 := by
  have := ahead_nx ps s.1
  unfold outM
  split
  · simp; omega
  · simp; omega
theorem outM_below {ps : List Pc} {s : Pc} {j : Nat} (hj : j < ps.length) (h : j < aheadN ps s.1) : outM ps s (j + 1) = outM ps s j ++ [nth ps j] := by
  unfold outM; rw [if_neg (by omega), if_neg (by omega), take_nth hj]
theorem outM_hit {ps : List Pc} {s : Pc} {j : Nat} (hj : j < ps.length) (h : j = aheadN ps s.1) (hh : hitM ps s.1 = true) : outM ps s (j + 1) = outM ps s j ++ [s] := by
  have hn : nxM ps s.1 = j + 1 := by unfold nxM; rw [hh, if_pos rfl, ← h]
  unfold outM
  rw [if_pos (by omega), if_neg (by omega), ← h, hn, List.drop_eq_nil_of_le (by rw [List.length_take]; omega)]
theorem outM_at {ps : List Pc} {s : Pc} {j : Nat} (hj : j < ps.length) (h : j = aheadN ps s.1) (hh : hitM ps s.1 = false) : outM ps s (j + 1) = (outM ps s j ++ [s]) ++ [nth ps j] := by
  have hn : nxM ps s.1 = j := by unfold nxM; rw [hh, ← h]; rfl
  unfold outM
  have hl : (ps.take j).length = j := by rw [List.length_take]; omega
  rw [if_pos (by omega), if_neg (by omega), ← h, hn, take_nth hj, List.drop_append_of_le_length (by omega), List.drop_eq_nil_of_le (by omega)]
  simp
theorem outM_above {ps : List Pc} {s : Pc} {j : Nat} (hj : j < ps.length) (h : aheadN ps s.1 < j) : outM ps s (j + 1) = outM ps s j ++ [nth ps j] := by
  have hn : nxM ps s.1 ≤ j := by unfold nxM; split <;> omega
  unfold outM
  have hl : (ps.take j).length = j := by rw [List.length_take]; omega
  rw [if_pos (by omega), if_pos h, take_nth hj, List.drop_append_of_le_length (by omega)]
  simp
theorem outM_end (ps : List Pc) (s : Pc) (h : aheadN ps s.1 < ps.length) : outM ps s ps.length = putM ps s := by
  unfold outM putM; rw [if_pos h, List.take_length]
theorem outM_last (ps : List Pc) (s : Pc) (h : ¬ aheadN ps s.1 < ps.length) : outM ps s ps.length ++ [s] = putM ps s := by
  have e : aheadN ps s.1 = ps.length := by have := ahead_le ps s.1; omega
  have e2 : nxM ps s.1 = ps.length := by have := nx_le ps s.1; have := ahead_nx ps s.1; omega
  unfold outM putM; rw [if_neg h, e, e2, List.take_length, List.drop_length]

set_option maxRecDepth 100000 in
set_option maxHeartbeats 1000000 in
theorem rputm_any (v : Value) (ps : List Pc) (s1 s2 : Int) (w : World) (h : SpansIn w v ps) (hr : Rise ps) (hl : ps.length ≤ 1000000) :
    Calls Try.prog 28 #[v, .agg #[.int .i64 s1, .int .i64 s2]] w fun e w' => ∃ u, e = .returned u ∧ OwnM w' w.heap.size u (putM ps (s1, s2)) ∧ Fresh w w' := by
  obtain ⟨i0, hi, hz0, hz1, hz2⟩ := infoOf infoMark
  obtain ⟨n, hn⟩ : ∃ n, n = w.heap.size := ⟨_, rfl⟩
  obtain ⟨W1, hW1⟩ : ∃ W1, W1 = w.alloc (.cells #[.int .i64 s1, .int .i64 s2] 37) := ⟨_, rfl⟩
  have FW := hide (show Fresh w W1 by subst hW1; exact fresh_box _ _ _)
  have BB : W1.heap[n]? = some (.cells #[.int .i64 s1, .int .i64 s2] 37 (0, 0)) := by subst hW1; rw [hn]; exact heap_alloc_new w _
  have Y0 : Hid (W1.cell? ⟨n, 0, none⟩ = some (.int .i64 s1)) := cell_block BB 0 _ rfl
  have Y1 : Hid (W1.cell? ⟨n, 1, none⟩ = some (.int .i64 s2)) := cell_block BB 1 _ rfl
  have H1 := hide (h.fresh FW.out)
  have HN := hide hn
  have HW := hide hW1
  have RI := hide hr
  have LE := hide hl
  obtain ⟨a, cap, rfl, _, hl2, hl3, h4, hn0, hc⟩ := h.1
  have l0 : (0 : Int) ≤ (ps.length : Int) := by omega
  have l1 : (ps.length : Int) ≤ 1000000 := by omega
  clear BB hn hW1 hr h hl2 hl3 h4 hn0 hc hl
  go_enter Try.func28, Try.ntmps28
  go_wp2
  rw [← HW.out, ← HN.out]
  go_loopw [5, 6, 7] (fun ov pv iv wr => ∃ j : Nat, j ≤ ps.length ∧ pv = .bool (decide (aheadN ps s1 < j)) ∧ iv = .int .i64 (j : Int) ∧ OwnM wr W1.heap.size ov (outM ps (s1, s2) j) ∧ Fresh W1 wr) (fun _ _ i _ => (ps.length - intOf i).toNat)
  case atStart => exact ⟨0, Nat.zero_le _, by rw [decide_eq_false (by omega)], rfl, by rw [outM_zero]; exact OwnM.nil _ _, Fresh.refl _⟩
  case round =>
    obtain ⟨j, hj, rfl, rfl, ho, hf⟩ := hrel
    have O := hide ho
    have F := hide hf
    have j0 : (0 : Int) ≤ (j : Int) := by omega
    have y0 := (hf.cell (World.block_lt_of_cell? _ _ Y0.out)).trans Y0.out
    have y1 := (hf.cell (World.block_lt_of_cell? _ _ Y1.out)).trans Y1.out
    have nl : n < wr.heap.size := World.block_lt_of_cell? _ _ y0
    have LJ := hide (outM_length ps (s1, s2) j)
    have m1 : (outM ps (s1, s2) j).length + 1 ≤ maxLen := by have := LJ.out; have := LE.out; unfold maxLen; omega
    have m2 : ((outM ps (s1, s2) j).length + 1) * 16 ≤ 140737488355328 := by have := LJ.out; have := LE.out; omega
    clear ho hf
    by_cases g : j < ps.length
    · have g' : (j : Int) < (ps.length : Int) := by omega
      rcases (H1.out.fresh F.out).cases with ⟨_, rfl⟩ | ⟨b, o, cap', e, _, _, _, _, hc⟩
      · simp at g
      cases e
      obtain ⟨c0, c1⟩ := hc j g
      rcases H1.out.cases with ⟨e2, _⟩ | ⟨b', o', cap', e2, _, _, _, _, hc2⟩
      · cases e2
      cases e2
      obtain ⟨C0, C1⟩ := hc2 j g
      have C0 := hide C0
      have C1 := hide C1
      have bl : b < wr.heap.size := World.block_lt_of_cell? _ _ c0
      have AL := hide (fun (hk : j < aheadN ps s1) => ahead_lt ps s1 j hk)
      have AA := hide (fun (hk : j = aheadN ps s1) => show s1 ≤ (nth ps j).1 by rw [hk]; exact ahead_at ps s1 (by omega))
      have AB := hide (fun (hk : aheadN ps s1 < j) => show s1 < (nth ps j).1 from nx_lt RI.out (by unfold nxM; split <;> omega) g)
      have HH := hide (fun (hk : j = aheadN ps s1) => show hitM ps s1 = decide ((nth ps j).1 = s1) by unfold hitM; rw [← hk, decide_eq_true g]; rfl)
      have OB := hide (fun hk => outM_below (s := (s1, s2)) g hk)
      have OH := hide (fun hk hh => outM_hit (s := (s1, s2)) g hk hh)
      have OA := hide (fun hk hh => outM_at (s := (s1, s2)) g hk hh)
      have OV := hide (fun hk => outM_above (s := (s1, s2)) g hk)
      generalize nth ps j = p at *
      obtain ⟨p1, p2⟩ := p
      simp only at c0 c1 AL AA AB HH C0 C1
      clear hc hc2
      rcases Nat.lt_trichotomy j (aheadN ps s1) with hk | hk | hk
      · rw [decide_eq_false (show ¬ aheadN ps s1 < j by omega)]
        have FN := hide (show decide (aheadN ps s1 < j + 1) = false from decide_eq_false (by omega))
        have OE := hide (OB.out hk)
        have lt : p1 < s1 := AL.out hk
        have ne : (p1 == s1) = false := by rw [beq_eq_false_iff_ne]; omega
        clear hk
        go_wp2_with fail
        go_quiet (fail)
        generalize hwd : World.drewN wr _ = wd
        have Kwd := hide (show Fresh wr wd by rw [← hwd]; exact Fresh.drewN _ _)
        have Owd := hide (O.out.fresh Kwd.out)
        have Fwd := hide (F.out.trans Kwd.out)
        have q0 := (Fwd.out.cell (World.block_lt_of_cell? _ _ C0.out)).trans C0.out
        have q1 := (Fwd.out.cell (World.block_lt_of_cell? _ _ C1.out)).trans C1.out
        have q2 := (Fwd.out.cell (World.block_lt_of_cell? _ _ Y0.out)).trans Y0.out
        have q3 := (Fwd.out.cell (World.block_lt_of_cell? _ _ Y1.out)).trans Y1.out
        have q0l : b < wd.heap.size := World.block_lt_of_cell? _ _ q0
        have q2l : n < wd.heap.size := World.block_lt_of_cell? _ _ q2
        have q0m : W1.heap.size ≤ (wd.alloc (.cells #[.int .i64 p1, .int .i64 p2] 37)).heap.size := by have := Fwd.out.size; simp; omega
        have q2m : W1.heap.size ≤ (wd.alloc (.cells #[.int .i64 s1, .int .i64 s2] 37)).heap.size := by have := Fwd.out.size; simp; omega
        clear hwd c0 c1 y0 y1 bl nl
        go_wp2_with fail
        go_quiet (fail)
        generalize hwd : World.drewN wd _ = we
        have Kwe := hide (show Fresh wd we by rw [← hwd]; exact Fresh.drewN _ _)
        have Owe := hide (Owd.out.fresh Kwe.out)
        have Fwe := hide (Fwd.out.trans Kwe.out)
        have r0 := (Fwe.out.cell (World.block_lt_of_cell? _ _ C0.out)).trans C0.out
        have r1 := (Fwe.out.cell (World.block_lt_of_cell? _ _ C1.out)).trans C1.out
        have r2 := (Fwe.out.cell (World.block_lt_of_cell? _ _ Y0.out)).trans Y0.out
        have r3 := (Fwe.out.cell (World.block_lt_of_cell? _ _ Y1.out)).trans Y1.out
        have r0l : b < we.heap.size := World.block_lt_of_cell? _ _ r0
        have r2l : n < we.heap.size := World.block_lt_of_cell? _ _ r2
        have r0m : W1.heap.size ≤ (we.alloc (.cells #[.int .i64 p1, .int .i64 p2] 37)).heap.size := by have := Fwe.out.size; simp; omega
        have r2m : W1.heap.size ≤ (we.alloc (.cells #[.int .i64 s1, .int .i64 s2] 37)).heap.size := by have := Fwe.out.size; simp; omega
        clear hwd q0 q1 q2 q3 q0l q2l q0m q2m
        go_wp2_with (at_builtin; refine wpList_append_own _ rfl _ _ 27 rfl W1.heap.size 37 i0 (.agg #[.int .i64 0, .int .i64 0]) 2 16 Try.underlying27 hi hz0 hz1 hz2 rfl (by decide) _ _ _ rfl (Owe.out.fresh (fresh_box _ _ _)) ⟨_, 0, none⟩ 1 1 [.int .i64 p1, .int .i64 p2] rfl rfl (mark_news _ _ _) (mark_one _ _) m1 m2 r0m ?_; intro v1 w3 hown hgrow _)
        have O2 := hide (show OwnM w3 W1.heap.size v1 (outM ps (s1, s2) (j + 1)) by rw [OE.out]; exact ownM_push hown)
        have F2 := hide (show Fresh W1 w3 from (Owe.out.fresh (fresh_box _ _ _)).grown (Nat.le_refl _) (fresh_more Fwe.out _ _) hgrow)
        clear hown hgrow
        go_roundw
        case rel => exact ⟨j + 1, by omega, by rw [FN.out], by go_num, O2.out, F2.out⟩
        case measure => simp [intOf]; omega
      · rw [decide_eq_false (show ¬ aheadN ps s1 < j by omega)]
        have FN := hide (show decide (aheadN ps s1 < j + 1) = true from decide_eq_true (by omega))
        have le : s1 ≤ p1 := AA.out hk
        have m5 : (outM ps (s1, s2) j ++ [(s1, s2)]).length + 1 ≤ maxLen := by have := LJ.out; have := LE.out; unfold maxLen; simp; omega
        have m6 : ((outM ps (s1, s2) j ++ [(s1, s2)]).length + 1) * 16 ≤ 140737488355328 := by have := LJ.out; have := LE.out; simp; omega
        cases hh : hitM ps s1 with
        | true =>
          have OE := hide (OH.out hk hh)
          have ez : p1 = s1 := by have := HH.out hk; rw [hh] at this; exact of_decide_eq_true this.symm
          have EZ := hide ez
          have eq : (p1 == s1) = true := by simp [ez]
          clear hk hh ez
          go_wp2_with fail
          go_quiet (fail)
          generalize hwd : World.drewN wr _ = wd
          have Kwd := hide (show Fresh wr wd by rw [← hwd]; exact Fresh.drewN _ _)
          have Owd := hide (O.out.fresh Kwd.out)
          have Fwd := hide (F.out.trans Kwd.out)
          have q0 := (Fwd.out.cell (World.block_lt_of_cell? _ _ C0.out)).trans C0.out
          have q1 := (Fwd.out.cell (World.block_lt_of_cell? _ _ C1.out)).trans C1.out
          have q2 := (Fwd.out.cell (World.block_lt_of_cell? _ _ Y0.out)).trans Y0.out
          have q3 := (Fwd.out.cell (World.block_lt_of_cell? _ _ Y1.out)).trans Y1.out
          have q0l : b < wd.heap.size := World.block_lt_of_cell? _ _ q0
          have q2l : n < wd.heap.size := World.block_lt_of_cell? _ _ q2
          have q0m : W1.heap.size ≤ (wd.alloc (.cells #[.int .i64 p1, .int .i64 p2] 37)).heap.size := by have := Fwd.out.size; simp; omega
          have q2m : W1.heap.size ≤ (wd.alloc (.cells #[.int .i64 s1, .int .i64 s2] 37)).heap.size := by have := Fwd.out.size; simp; omega
          clear hwd c0 c1 y0 y1 bl nl
          go_wp2_with (at_builtin; refine wpList_append_own _ rfl _ _ 27 rfl W1.heap.size 37 i0 (.agg #[.int .i64 0, .int .i64 0]) 2 16 Try.underlying27 hi hz0 hz1 hz2 rfl (by decide) _ _ _ rfl (Owd.out.fresh (fresh_box _ _ _)) ⟨_, 0, none⟩ 1 1 [.int .i64 s1, .int .i64 s2] rfl rfl (mark_news _ _ _) (mark_one _ _) m1 m2 q2m ?_; intro v1 w3 hown hgrow _)
          have OX := hide (show OwnM w3 W1.heap.size v1 (outM ps (s1, s2) (j + 1)) by rw [OE.out]; exact ownM_push hown)
          have FX := hide (show Fresh W1 w3 from (Owd.out.fresh (fresh_box _ _ _)).grown (Nat.le_refl _) (fresh_more Fwd.out _ _) hgrow)
          clear hown hgrow q0 q1 q2 q3 q0l q2l q0m q2m
          have x0 := (FX.out.cell (World.block_lt_of_cell? _ _ C0.out)).trans C0.out
          have x1 := (FX.out.cell (World.block_lt_of_cell? _ _ C1.out)).trans C1.out
          have x2 := (FX.out.cell (World.block_lt_of_cell? _ _ Y0.out)).trans Y0.out
          have x3 := (FX.out.cell (World.block_lt_of_cell? _ _ Y1.out)).trans Y1.out
          have x0l : b < w3.heap.size := World.block_lt_of_cell? _ _ x0
          have x2l : n < w3.heap.size := World.block_lt_of_cell? _ _ x2
          go_wp2_with fail
          go_quiet (fail)
          generalize hwd : World.drewN w3 _ = we
          have Kwe := hide (show Fresh w3 we by rw [← hwd]; exact Fresh.drewN _ _)
          have Owe := hide (OX.out.fresh Kwe.out)
          have Fwe := hide (FX.out.trans Kwe.out)
          have r0 := (Fwe.out.cell (World.block_lt_of_cell? _ _ C0.out)).trans C0.out
          have r1 := (Fwe.out.cell (World.block_lt_of_cell? _ _ C1.out)).trans C1.out
          have r2 := (Fwe.out.cell (World.block_lt_of_cell? _ _ Y0.out)).trans Y0.out
          have r3 := (Fwe.out.cell (World.block_lt_of_cell? _ _ Y1.out)).trans Y1.out
          have r0l : b < we.heap.size := World.block_lt_of_cell? _ _ r0
          have r2l : n < we.heap.size := World.block_lt_of_cell? _ _ r2
          have r0m : W1.heap.size ≤ (we.alloc (.cells #[.int .i64 p1, .int .i64 p2] 37)).heap.size := by have := Fwe.out.size; simp; omega
          have r2m : W1.heap.size ≤ (we.alloc (.cells #[.int .i64 s1, .int .i64 s2] 37)).heap.size := by have := Fwe.out.size; simp; omega
          clear hwd x0 x1 x2 x3 x0l x2l
          go_wp2
          go_roundw
          case rel => exact ⟨j + 1, by omega, by rw [FN.out], by go_num, Owe.out, Fwe.out⟩
          case measure => simp [intOf]; omega
        | false =>
          have OE := hide (OA.out hk hh)
          have ne : (p1 == s1) = false := by rw [beq_eq_false_iff_ne]; have := HH.out hk; rw [hh] at this; exact of_decide_eq_false this.symm
          clear hk hh
          go_wp2_with fail
          go_quiet (fail)
          generalize hwd : World.drewN wr _ = wd
          have Kwd := hide (show Fresh wr wd by rw [← hwd]; exact Fresh.drewN _ _)
          have Owd := hide (O.out.fresh Kwd.out)
          have Fwd := hide (F.out.trans Kwd.out)
          have q0 := (Fwd.out.cell (World.block_lt_of_cell? _ _ C0.out)).trans C0.out
          have q1 := (Fwd.out.cell (World.block_lt_of_cell? _ _ C1.out)).trans C1.out
          have q2 := (Fwd.out.cell (World.block_lt_of_cell? _ _ Y0.out)).trans Y0.out
          have q3 := (Fwd.out.cell (World.block_lt_of_cell? _ _ Y1.out)).trans Y1.out
          have q0l : b < wd.heap.size := World.block_lt_of_cell? _ _ q0
          have q2l : n < wd.heap.size := World.block_lt_of_cell? _ _ q2
          have q0m : W1.heap.size ≤ (wd.alloc (.cells #[.int .i64 p1, .int .i64 p2] 37)).heap.size := by have := Fwd.out.size; simp; omega
          have q2m : W1.heap.size ≤ (wd.alloc (.cells #[.int .i64 s1, .int .i64 s2] 37)).heap.size := by have := Fwd.out.size; simp; omega
          clear hwd c0 c1 y0 y1 bl nl
          go_wp2_with (at_builtin; refine wpList_append_own _ rfl _ _ 27 rfl W1.heap.size 37 i0 (.agg #[.int .i64 0, .int .i64 0]) 2 16 Try.underlying27 hi hz0 hz1 hz2 rfl (by decide) _ _ _ rfl (Owd.out.fresh (fresh_box _ _ _)) ⟨_, 0, none⟩ 1 1 [.int .i64 s1, .int .i64 s2] rfl rfl (mark_news _ _ _) (mark_one _ _) m1 m2 q2m ?_; intro v0 w3 hown hgrow _)
          have OX := hide (ownM_push hown)
          have FX := hide (show Fresh W1 w3 from (Owd.out.fresh (fresh_box _ _ _)).grown (Nat.le_refl _) (fresh_more Fwd.out _ _) hgrow)
          clear hown hgrow q0 q1 q2 q3 q0l q2l q0m q2m m1 m2
          have x0 := (FX.out.cell (World.block_lt_of_cell? _ _ C0.out)).trans C0.out
          have x1 := (FX.out.cell (World.block_lt_of_cell? _ _ C1.out)).trans C1.out
          have x2 := (FX.out.cell (World.block_lt_of_cell? _ _ Y0.out)).trans Y0.out
          have x3 := (FX.out.cell (World.block_lt_of_cell? _ _ Y1.out)).trans Y1.out
          have x0l : b < w3.heap.size := World.block_lt_of_cell? _ _ x0
          have x2l : n < w3.heap.size := World.block_lt_of_cell? _ _ x2
          go_wp2_with fail
          go_quiet (fail)
          generalize hwd : World.drewN w3 _ = we
          have Kwe := hide (show Fresh w3 we by rw [← hwd]; exact Fresh.drewN _ _)
          have Owe := hide (OX.out.fresh Kwe.out)
          have Fwe := hide (FX.out.trans Kwe.out)
          have r0 := (Fwe.out.cell (World.block_lt_of_cell? _ _ C0.out)).trans C0.out
          have r1 := (Fwe.out.cell (World.block_lt_of_cell? _ _ C1.out)).trans C1.out
          have r2 := (Fwe.out.cell (World.block_lt_of_cell? _ _ Y0.out)).trans Y0.out
          have r3 := (Fwe.out.cell (World.block_lt_of_cell? _ _ Y1.out)).trans Y1.out
          have r0l : b < we.heap.size := World.block_lt_of_cell? _ _ r0
          have r2l : n < we.heap.size := World.block_lt_of_cell? _ _ r2
          have r0m : W1.heap.size ≤ (we.alloc (.cells #[.int .i64 p1, .int .i64 p2] 37)).heap.size := by have := Fwe.out.size; simp; omega
          have r2m : W1.heap.size ≤ (we.alloc (.cells #[.int .i64 s1, .int .i64 s2] 37)).heap.size := by have := Fwe.out.size; simp; omega
          clear hwd x0 x1 x2 x3 x0l x2l
          have m1 := m5
          have m2 := m6
          go_wp2_with (at_builtin; refine wpList_append_own _ rfl _ _ 27 rfl W1.heap.size 37 i0 (.agg #[.int .i64 0, .int .i64 0]) 2 16 Try.underlying27 hi hz0 hz1 hz2 rfl (by decide) _ _ _ rfl (Owe.out.fresh (fresh_box _ _ _)) ⟨_, 0, none⟩ 1 1 [.int .i64 p1, .int .i64 p2] rfl rfl (mark_news _ _ _) (mark_one _ _) m1 m2 r0m ?_; intro v1 w3 hown hgrow _)
          have O2 := hide (show OwnM w3 W1.heap.size v1 (outM ps (s1, s2) (j + 1)) by rw [OE.out]; exact ownM_push hown)
          have F2 := hide (show Fresh W1 w3 from (Owe.out.fresh (fresh_box _ _ _)).grown (Nat.le_refl _) (fresh_more Fwe.out _ _) hgrow)
          clear hown hgrow
          go_roundw
          case rel => exact ⟨j + 1, by omega, by rw [FN.out], by go_num, O2.out, F2.out⟩
          case measure => simp [intOf]; omega
      · rw [decide_eq_true hk]
        have FN := hide (show decide (aheadN ps s1 < j + 1) = true from decide_eq_true (by omega))
        have OE := hide (OV.out hk)
        have lt : s1 < p1 := AB.out hk
        have ne : (p1 == s1) = false := by rw [beq_eq_false_iff_ne]; omega
        clear hk
        go_wp2_with fail
        go_quiet (fail)
        generalize hwd : World.drewN wr _ = wd
        have Kwd := hide (show Fresh wr wd by rw [← hwd]; exact Fresh.drewN _ _)
        have Owd := hide (O.out.fresh Kwd.out)
        have Fwd := hide (F.out.trans Kwd.out)
        have q0 := (Fwd.out.cell (World.block_lt_of_cell? _ _ C0.out)).trans C0.out
        have q1 := (Fwd.out.cell (World.block_lt_of_cell? _ _ C1.out)).trans C1.out
        have q2 := (Fwd.out.cell (World.block_lt_of_cell? _ _ Y0.out)).trans Y0.out
        have q3 := (Fwd.out.cell (World.block_lt_of_cell? _ _ Y1.out)).trans Y1.out
        have q0l : b < wd.heap.size := World.block_lt_of_cell? _ _ q0
        have q2l : n < wd.heap.size := World.block_lt_of_cell? _ _ q2
        have q0m : W1.heap.size ≤ (wd.alloc (.cells #[.int .i64 p1, .int .i64 p2] 37)).heap.size := by have := Fwd.out.size; simp; omega
        have q2m : W1.heap.size ≤ (wd.alloc (.cells #[.int .i64 s1, .int .i64 s2] 37)).heap.size := by have := Fwd.out.size; simp; omega
        clear hwd c0 c1 y0 y1 bl nl
        go_wp2_with fail
        go_quiet (fail)
        generalize hwd : World.drewN wd _ = we
        have Kwe := hide (show Fresh wd we by rw [← hwd]; exact Fresh.drewN _ _)
        have Owe := hide (Owd.out.fresh Kwe.out)
        have Fwe := hide (Fwd.out.trans Kwe.out)
        have r0 := (Fwe.out.cell (World.block_lt_of_cell? _ _ C0.out)).trans C0.out
        have r1 := (Fwe.out.cell (World.block_lt_of_cell? _ _ C1.out)).trans C1.out
        have r2 := (Fwe.out.cell (World.block_lt_of_cell? _ _ Y0.out)).trans Y0.out
        have r3 := (Fwe.out.cell (World.block_lt_of_cell? _ _ Y1.out)).trans Y1.out
        have r0l : b < we.heap.size := World.block_lt_of_cell? _ _ r0
        have r2l : n < we.heap.size := World.block_lt_of_cell? _ _ r2
        have r0m : W1.heap.size ≤ (we.alloc (.cells #[.int .i64 p1, .int .i64 p2] 37)).heap.size := by have := Fwe.out.size; simp; omega
        have r2m : W1.heap.size ≤ (we.alloc (.cells #[.int .i64 s1, .int .i64 s2] 37)).heap.size := by have := Fwe.out.size; simp; omega
        clear hwd q0 q1 q2 q3 q0l q2l q0m q2m
        go_wp2_with (at_builtin; refine wpList_append_own _ rfl _ _ 27 rfl W1.heap.size 37 i0 (.agg #[.int .i64 0, .int .i64 0]) 2 16 Try.underlying27 hi hz0 hz1 hz2 rfl (by decide) _ _ _ rfl (Owe.out.fresh (fresh_box _ _ _)) ⟨_, 0, none⟩ 1 1 [.int .i64 p1, .int .i64 p2] rfl rfl (mark_news _ _ _) (mark_one _ _) m1 m2 r0m ?_; intro v1 w3 hown hgrow _)
        have O2 := hide (show OwnM w3 W1.heap.size v1 (outM ps (s1, s2) (j + 1)) by rw [OE.out]; exact ownM_push hown)
        have F2 := hide (show Fresh W1 w3 from (Owe.out.fresh (fresh_box _ _ _)).grown (Nat.le_refl _) (fresh_more Fwe.out _ _) hgrow)
        clear hown hgrow
        go_roundw
        case rel => exact ⟨j + 1, by omega, by rw [FN.out], by go_num, O2.out, F2.out⟩
        case measure => simp [intOf]; omega
    · obtain rfl : j = ps.length := by omega
      have m3 : W1.heap.size ≤ (wr.alloc (.cells #[.int .i64 s1, .int .i64 s2] 37)).heap.size := by have := F.out.size; simp; omega
      cases hfl : decide (aheadN ps s1 < ps.length) with
      | true =>
        have OE := hide (outM_end ps (s1, s2) (of_decide_eq_true hfl))
        clear hfl
        go_wp2
        go_ret
        exact ⟨_, rfl, by rw [← OE.out]; exact O.out.mono FW.out.size, FW.out.trans F.out⟩
      | false =>
        have OE := hide (outM_last ps (s1, s2) (of_decide_eq_false hfl))
        clear hfl
        go_wp2_with (at_builtin; refine wpList_append_own _ rfl _ _ 27 rfl W1.heap.size 37 i0 (.agg #[.int .i64 0, .int .i64 0]) 2 16 Try.underlying27 hi hz0 hz1 hz2 rfl (by decide) _ _ _ rfl (O.out.fresh (fresh_box _ _ _)) ⟨_, 0, none⟩ 1 1 [.int .i64 s1, .int .i64 s2] rfl rfl (mark_news _ _ _) (mark_one _ _) m1 m2 m3 ?_; intro v1 w3 hown hgrow _)
        have O2 := hide (show OwnM w3 W1.heap.size v1 (putM ps (s1, s2)) by rw [← OE.out]; exact ownM_push hown)
        have F2 := hide (show Fresh W1 w3 from (O.out.fresh (fresh_box _ _ _)).grown (Nat.le_refl _) (fresh_more F.out _ _) hgrow)
        clear hown hgrow
        go_ret
        exact ⟨_, rfl, O2.out.mono FW.out.size, FW.out.trans F2.out⟩
end Go.Proofs.Ytegolecdmpikhaa
