/-
  Plain: the order of nodes by scores; the best of the first nodes; sorted lists; what taking one out does. No program.
-/
import Derived.Shelf.SlSortCmp.NoneTotal
namespace Go.Proofs.YtkdahjaflgebiaaDoor
namespace Hsh

/-- Node a comes ahead of node b: a greater score, or the same and a lower index. -/
def lt (sc : Nat → Nat) (a b : Nat) : Bool := decide (sc b < sc a ∨ (sc a = sc b ∧ a < b))
theorem lt_irrefl (sc : Nat → Nat) (a : Nat) : lt sc a a = false := by simp [lt]
theorem lt_trans {sc : Nat → Nat} {a b c : Nat} (h1 : lt sc a b = true) (h2 : lt sc b c = true) : lt sc a c = true := by simp [lt] at *; omega
theorem lt_ntrans {sc : Nat → Nat} {a b c : Nat} (h1 : lt sc a b = false) (h2 : lt sc b c = false) : lt sc a c = false := by simp [lt] at *; omega
theorem lt_anti {sc : Nat → Nat} {a b : Nat} (h1 : lt sc a b = false) (h2 : lt sc b a = false) : a = b := by simp [lt] at *; omega
theorem lt_asymm {sc : Nat → Nat} {a b : Nat} (h1 : lt sc a b = true) : lt sc b a = false := by simp [lt] at *; omega

/-- The best of the nodes below n. -/
def bst (sc : Nat → Nat) : Nat → Nat
  | 0 => 0
  | j + 1 => if lt sc j (bst sc j) then j else bst sc j
theorem bst_one (sc : Nat → Nat) : bst sc 1 = 0 := by simp [bst, lt_irrefl]
theorem bst_lt (sc : Nat → Nat) : ∀ n, 0 < n → bst sc n < n
  | 1, _ => by rw [bst_one]; omega
  | j + 2, _ => by
    have := bst_lt sc (j + 1) (by omega)
    rw [bst]
    split <;> omega
theorem bst_le (sc : Nat → Nat) : ∀ n, bst sc n ≤ n
  | 0 => Nat.le_refl _
  | n + 1 => Nat.le_of_lt (bst_lt sc (n + 1) (by omega))
theorem bst_min (sc : Nat → Nat) : ∀ n i, i < n → lt sc i (bst sc n) = false
  | 0, i, h => absurd h (by omega)
  | j + 1, i, h => by
    rw [bst]
    cases hl : lt sc j (bst sc j) with
    | true =>
      rw [if_pos rfl]
      rcases Nat.lt_or_ge i j with h' | h'
      · have h1 := bst_min sc j i h'
        cases h2 : lt sc i j with
        | false => rfl
        | true => rw [lt_trans h2 hl] at h1; cases h1
      · obtain rfl : i = j := by omega
        exact lt_irrefl _ _
    | false =>
      rw [if_neg (by simp)]
      rcases Nat.lt_or_ge i j with h' | h'
      · exact bst_min sc j i h'
      · obtain rfl : i = j := by omega
        exact hl
theorem bst_uniq {sc : Nat → Nat} {n m : Nat} (hm : m < n) (h : ∀ i, i < n → lt sc i m = false) : bst sc n = m :=
  lt_anti (h _ (bst_lt sc n (by omega))) (bst_min sc n m hm)
theorem bst_congr {s t : Nat → Nat} : ∀ n, (∀ i, i < n → s i = t i) → bst s n = bst t n
  | 0, _ => rfl
  | j + 1, h => by
    have e := bst_congr j (fun i hi => h i (by omega))
    have hb := bst_le t j
    rw [bst, bst, e]
    have : lt s j (bst t j) = lt t j (bst t j) := by
      unfold lt
      rw [h j (by omega), h (bst t j) (by omega)]
    rw [this]

/-- A list that ranks the nodes below n. -/
def IsRank (sc : Nat → Nat) (n : Nat) (l : List Nat) : Prop := l.Perm (List.range n) ∧ l.Pairwise fun a b => lt sc b a = false
theorem IsRank.len {sc : Nat → Nat} {n : Nat} {l : List Nat} (h : IsRank sc n l) : l.length = n := by rw [h.1.length_eq, List.length_range]
theorem IsRank.mem {sc : Nat → Nat} {n : Nat} {l : List Nat} (h : IsRank sc n l) {i : Nat} : i ∈ l ↔ i < n := by rw [h.1.mem_iff, List.mem_range]
theorem IsRank.nodup {sc : Nat → Nat} {n : Nat} {l : List Nat} (h : IsRank sc n l) : l.Nodup := h.1.nodup_iff.2 List.nodup_range

/-- The best of the first j nodes that are not in out. -/
def sel (sc : Nat → Nat) (out : List Nat) : Nat → Option Nat
  | 0 => none
  | j + 1 => if j ∈ out then sel sc out j else match sel sc out j with
    | none => some j
    | some b => if sc b < sc j then some j else some b
def SelIs (sc : Nat → Nat) (out : List Nat) (j : Nat) : Option Nat → Prop
  | none => ∀ i, i < j → i ∈ out
  | some b => b < j ∧ b ∉ out ∧ ∀ i, i < j → i ∉ out → lt sc i b = false
theorem sel_spec (sc : Nat → Nat) (out : List Nat) : ∀ j, SelIs sc out j (sel sc out j)
  | 0 => fun i h => absurd h (by omega)
  | j + 1 => by
    have ih := sel_spec sc out j
    rw [sel]
    by_cases hj : j ∈ out
    · rw [if_pos hj]
      cases hs : sel sc out j with
      | none =>
        rw [hs] at ih
        intro i hi
        rcases Nat.lt_or_ge i j with h | h
        · exact ih i h
        · obtain rfl : i = j := by omega
          exact hj
      | some b =>
        rw [hs] at ih
        refine ⟨by have := ih.1; omega, ih.2.1, fun i hi ho => ?_⟩
        rcases Nat.lt_or_ge i j with h | h
        · exact ih.2.2 i h ho
        · obtain rfl : i = j := by omega
          exact absurd hj ho
    · rw [if_neg hj]
      cases hs : sel sc out j with
      | none =>
        rw [hs] at ih
        refine ⟨by omega, hj, fun i hi ho => ?_⟩
        rcases Nat.lt_or_ge i j with h | h
        · exact absurd (ih i h) ho
        · obtain rfl : i = j := by omega
          exact lt_irrefl _ _
      | some b =>
        rw [hs] at ih
        obtain ⟨h1, h2, h3⟩ := ih
        by_cases hc : sc b < sc j
        · simp only [if_pos hc]
          refine ⟨by omega, hj, fun i hi ho => ?_⟩
          rcases Nat.lt_or_ge i j with h | h
          · have := h3 i h ho
            simp [lt] at *
            omega
          · obtain rfl : i = j := by omega
            exact lt_irrefl _ _
        · simp only [if_neg hc]
          refine ⟨by omega, h2, fun i hi ho => ?_⟩
          rcases Nat.lt_or_ge i j with h | h
          · exact h3 i h ho
          · obtain rfl : i = j := by omega
            simp [lt]
            omega
theorem sel_rank {sc : Nat → Nat} {n : Nat} {l : List Nat} (h : IsRank sc n l) {k : Nat} (hk : k < n) : sel sc (l.take k) n = some (l[k]'(by rw [h.len]; exact hk)) := by
  have hkl : k < l.length := by rw [h.len]; exact hk
  have hn := h.nodup
  have hsplit : l.take k ++ l[k] :: l.drop (k + 1) = l := by rw [List.getElem_cons_drop, List.take_append_drop]
  have hnot : l[k] ∉ l.take k := by
    intro hm
    rw [← hsplit, List.nodup_append] at hn
    exact hn.2.2 _ hm _ (List.mem_cons_self ..) rfl
  have hin : l[k] < n := h.mem.1 (List.getElem_mem hkl)
  have hsp := sel_spec sc (l.take k) n
  cases hs : sel sc (l.take k) n with
  | none =>
    rw [hs] at hsp
    exact absurd (hsp _ hin) hnot
  | some m =>
    rw [hs] at hsp
    obtain ⟨h1, h2, h3⟩ := hsp
    have hmem : m ∈ l := h.mem.2 h1
    rw [← hsplit] at hmem
    congr 1
    rcases List.mem_append.1 hmem with h4 | h4
    · exact absurd h4 h2
    · rcases List.mem_cons.1 h4 with h5 | h5
      · exact h5
      · have hp := h.2
        rw [← hsplit, List.pairwise_append] at hp
        have := (List.pairwise_cons.1 hp.2.1).1 m h5
        exact lt_anti this (h3 _ hin hnot)
theorem rank_head {sc : Nat → Nat} {n : Nat} {l : List Nat} (h : IsRank sc n l) (hn : 0 < n) : l[0]'(by rw [h.len]; exact hn) = bst sc n := by
  have h0 : 0 < l.length := by rw [h.len]; exact hn
  symm
  refine bst_uniq (h.mem.1 (List.getElem_mem h0)) fun i hi => ?_
  have hi' : i ∈ l := h.mem.2 hi
  have hsplit : l[0] :: l.drop 1 = l := by rw [List.getElem_cons_drop, List.drop_zero]
  rw [← hsplit] at hi'
  rcases List.mem_cons.1 hi' with h5 | h5
  · rw [h5]; exact lt_irrefl _ _
  · have hp := h.2
    rw [← hsplit] at hp
    exact (List.pairwise_cons.1 hp).1 i h5

/-- One node taken out. -/
def skip (at_ i : Nat) : Nat := if i < at_ then i else i + 1
theorem skip_lt (at_ a b : Nat) : (skip at_ a < skip at_ b) = (a < b) := propext ⟨by unfold skip; split <;> split <;> omega, by unfold skip; split <;> split <;> omega⟩
theorem lt_skip (sc : Nat → Nat) (at_ a b : Nat) : lt (fun i => sc (skip at_ i)) a b = lt sc (skip at_ a) (skip at_ b) := by
  unfold lt
  simp only [skip_lt]
theorem bst_skip {sc : Nat → Nat} {n at_ : Nat} (hn : 2 ≤ n) (ha : at_ < n) (hne : bst sc n ≠ at_) :
    bst (fun i => sc (skip at_ i)) (n - 1) = if at_ < bst sc n then bst sc n - 1 else bst sc n := by
  have hb := bst_lt sc n (by omega)
  refine bst_uniq (by split <;> omega) fun i hi => ?_
  rw [lt_skip]
  have e : skip at_ (if at_ < bst sc n then bst sc n - 1 else bst sc n) = bst sc n := by
    unfold skip
    split <;> split <;> omega
  rw [e]
  refine bst_min sc n _ ?_
  unfold skip
  split <;> omega
end Hsh
end Go.Proofs.YtkdahjaflgebiaaDoor
