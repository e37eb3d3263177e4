/-
  Plain: the strings of a list in ascending order, each once. No program.
-/
import Derived.Lib.SlicesCompact
namespace Go.Proofs.Ytgchjfdldbadlaa
namespace Idn

abbrev Txt := List UInt8
def asc (D : List Txt) : Prop := D.Pairwise (· < ·)
theorem tlt_irrefl (x : Txt) : ¬ x < x := List.lt_irrefl x
theorem tlt_trans {x y z : Txt} (h : x < y) (k : y < z) : x < z := List.lt_trans h k
theorem tlt_conn {x y : Txt} (h : ¬ x < y) (k : ¬ x = y) : y < x := by
  rcases Classical.em (y < x) with g | g
  · exact g
  · exact absurd (List.le_antisymm (List.not_lt.1 g) (List.not_lt.1 h)) k
/-- Where a string stands in an ascending list, or would stand. -/
def pl (x : Txt) : List Txt → Nat
  | [] => 0
  | d :: r => if d < x then pl x r + 1 else 0
def ins (x : Txt) : List Txt → List Txt
  | [] => [x]
  | d :: r => if d < x then d :: ins x r else if d = x then d :: r else x :: d :: r
def srt (l : List Txt) : List Txt := l.foldl (fun D x => ins x D) []
theorem pl_le (x : Txt) : ∀ D, pl x D ≤ D.length
  | [] => Nat.le_refl _
  | d :: r => by
    have := pl_le x r
    unfold pl
    split
    · simp; omega
    · exact Nat.zero_le _
theorem pl_before (x : Txt) : ∀ (D : List Txt) (j : Nat) (h : j < D.length), j < pl x D → D[j] < x
  | [], j, h, _ => absurd h (Nat.not_lt_zero _)
  | d :: r, j, h, k => by
    unfold pl at k
    split at k
    · rename_i hd
      cases j with
      | zero => exact hd
      | succ j => exact pl_before x r j (by simpa using h) (by omega)
    · omega
theorem pl_at (x : Txt) : ∀ (D : List Txt) (h : pl x D < D.length), ¬ D[pl x D] < x
  | [], h => absurd h (Nat.not_lt_zero _)
  | d :: r, h => by
    by_cases hd : d < x
    · have e : pl x (d :: r) = pl x r + 1 := by rw [pl, if_pos hd]
      simp only [e] at h ⊢
      exact pl_at x r (by simpa using h)
    · have e : pl x (d :: r) = 0 := by rw [pl, if_neg hd]
      simp only [e]
      exact hd
/-- The place is the first one at which the list isn't below the string. -/
theorem pl_eq {x : Txt} {D : List Txt} {k : Nat} (hk : k ≤ D.length) (hb : ∀ j (h : j < D.length), j < k → D[j] < x) (ha : ∀ h : k < D.length, ¬ D[k] < x) : pl x D = k := by
  rcases Nat.lt_trichotomy (pl x D) k with h | h | h
  · exact absurd (hb _ (by omega) h) (pl_at x D (by omega))
  · exact h
  · have := pl_le x D
    exact absurd (pl_before x D k (by omega) h) (ha (by omega))
theorem ins_eq (x : Txt) : ∀ D, ins x D = if pl x D = D.length ∨ D[pl x D]? ≠ some x then D.take (pl x D) ++ x :: D.drop (pl x D) else D
  | [] => rfl
  | d :: r => by
    have ih := ins_eq x r
    unfold ins pl
    by_cases hd : d < x
    · simp only [if_pos hd]
      rw [ih]
      simp only [List.length_cons, Nat.add_right_cancel_iff, List.getElem?_cons_succ, List.take_succ_cons, List.drop_succ_cons]
      split
      · rfl
      · rfl
    · simp only [if_neg hd]
      by_cases he : d = x
      · subst he
        simp
      · simp [he]
theorem mem_ins (x y : Txt) : ∀ D, y ∈ ins x D ↔ y = x ∨ y ∈ D
  | [] => by simp [ins]
  | d :: r => by
    have ih := mem_ins x y r
    unfold ins
    split
    · simp only [List.mem_cons, ih]
      grind
    · split
      · rename_i h
        subst h
        simp
      · simp
theorem asc_ins (x : Txt) : ∀ {D}, asc D → asc (ins x D)
  | [], _ => List.pairwise_singleton ..
  | d :: r, h => by
    have ih := asc_ins x (List.pairwise_cons.1 h).2
    have h1 := (List.pairwise_cons.1 h).1
    unfold ins
    split
    · rename_i hd
      refine List.pairwise_cons.2 ⟨fun y hy => ?_, ih⟩
      rcases (mem_ins x y r).1 hy with rfl | k
      · exact hd
      · exact h1 y k
    · split
      · exact h
      · rename_i hd he
        have hxd := tlt_conn hd he
        refine List.pairwise_cons.2 ⟨fun y hy => ?_, h⟩
        rcases List.mem_cons.1 hy with rfl | k
        · exact hxd
        · exact tlt_trans hxd (h1 y k)
theorem srt_snoc (l : List Txt) (k : Nat) (h : k < l.length) : srt (l.take (k + 1)) = ins l[k] (srt (l.take k)) := by
  unfold srt
  rw [List.take_succ_eq_append_getElem h, List.foldl_append]
  rfl
theorem fold_asc : ∀ (l : List Txt) {D}, asc D → asc (l.foldl (fun D x => ins x D) D)
  | [], _, h => h
  | x :: r, _, h => fold_asc r (asc_ins x h)
theorem fold_mem (y : Txt) : ∀ (l : List Txt) (D : List Txt), y ∈ l.foldl (fun D x => ins x D) D ↔ y ∈ l ∨ y ∈ D
  | [], D => by simp
  | x :: r, D => by
    rw [List.foldl_cons, fold_mem y r, mem_ins]
    simp only [List.mem_cons]
    grind
theorem srt_asc (l : List Txt) : asc (srt l) := fold_asc l List.Pairwise.nil
theorem srt_mem (l : List Txt) (y : Txt) : y ∈ srt l ↔ y ∈ l := by
  unfold srt
  rw [fold_mem]
  simp
theorem ins_len (x : Txt) : ∀ D, (ins x D).length ≤ D.length + 1
  | [] => Nat.le_refl _
  | d :: r => by
    have := ins_len x r
    unfold ins
    split
    · simp; omega
    · split
      · simp
      · simp
theorem srt_len (l : List Txt) : ∀ k, k ≤ l.length → (srt (l.take k)).length ≤ k
  | 0, _ => by simp [srt]
  | k + 1, h => by
    rw [srt_snoc l k (by omega)]
    have := ins_len l[k] (srt (l.take k))
    have := srt_len l k (by omega)
    omega
/-- Two ascending lists of the same strings are one. -/
theorem asc_ext : ∀ {A B : List Txt}, asc A → asc B → (∀ x, x ∈ A ↔ x ∈ B) → A = B
  | [], [], _, _, _ => rfl
  | [], b :: B, _, _, h => absurd ((h b).2 (List.mem_cons_self ..)) (by simp)
  | a :: A, [], _, _, h => absurd ((h a).1 (List.mem_cons_self ..)) (by simp)
  | a :: A, b :: B, hA, hB, h => by
    have a1 := (List.pairwise_cons.1 hA).1
    have b1 := (List.pairwise_cons.1 hB).1
    have e : a = b := by
      rcases List.mem_cons.1 ((h a).1 (List.mem_cons_self ..)) with e | k
      · exact e
      · rcases List.mem_cons.1 ((h b).2 (List.mem_cons_self ..)) with e | g
        · exact e.symm
        · exact absurd (tlt_trans (a1 b g) (b1 a k)) (tlt_irrefl _)
    subst e
    rw [asc_ext (List.pairwise_cons.1 hA).2 (List.pairwise_cons.1 hB).2 fun x => ⟨fun k => ?_, fun k => ?_⟩]
    · rcases List.mem_cons.1 ((h x).1 (List.mem_cons_of_mem _ k)) with e | g
      · subst e; exact absurd (a1 x k) (tlt_irrefl _)
      · exact g
    · rcases List.mem_cons.1 ((h x).2 (List.mem_cons_of_mem _ k)) with e | g
      · subst e; exact absurd (b1 x k) (tlt_irrefl _)
      · exact g
/-- Where a list ascends, with or without equal neighbours, what is left of it ascends and has all. -/
theorem compact_inv (zs : List Txt) (hs : zs.Pairwise (fun x y => ¬ y < x)) : ∀ m, m ≤ zs.length → asc (Lib.compactUpTo zs.toArray m) ∧ ∀ x, x ∈ Lib.compactUpTo zs.toArray m ↔ x ∈ zs.take m
  | 0, _ => by simp [Lib.compactUpTo, asc]
  | m + 1, h => by
    obtain ⟨h1, h2⟩ := compact_inv zs hs m (by omega)
    rw [Lib.compactUpTo_succ]
    have hm : m < zs.length := by omega
    have e : zs.toArray[m]! = zs[m] := by simp [hm]
    have hle : ∀ x ∈ zs.take m, ¬ zs[m] < x := fun x hx => by
      obtain ⟨j, hj, rfl⟩ := List.getElem_of_mem hx
      rw [List.getElem_take]
      rw [List.length_take] at hj
      exact List.pairwise_iff_getElem.1 hs j m (by omega) hm (by omega)
    cases hk : Lib.keeps zs.toArray m with
    | true =>
      rw [if_pos rfl, e]
      constructor
      · refine List.pairwise_append.2 ⟨h1, List.pairwise_singleton .., fun a ha b hb => ?_⟩
        rw [List.mem_singleton] at hb
        subst hb
        have ha' := (h2 a).1 ha
        refine tlt_conn (hle a ha') (fun he => ?_)
        simp only [Lib.keeps, decide_eq_true_eq, e] at hk
        obtain ⟨j, hj, rfl⟩ := List.getElem_of_mem ha'
        rw [List.length_take] at hj
        rw [List.getElem_take] at he
        rcases hk with hk | hk
        · omega
        · have e2 : zs.toArray[m - 1]! = zs[m - 1] := by simp [show m - 1 < zs.length by omega]
          rw [e2] at hk
          have hmid : ¬ zs[m - 1] < zs[j] := by
            rcases Nat.lt_or_ge j (m - 1) with g | g
            · exact List.pairwise_iff_getElem.1 hs j (m - 1) (by omega) (by omega) g
            · obtain rfl : j = m - 1 := by omega
              exact tlt_irrefl _
          have hup := List.pairwise_iff_getElem.1 hs (m - 1) m (by omega) hm (by omega)
          have := tlt_conn hup hk
          rw [he] at this
          exact hmid this
      · intro x
        rw [List.mem_append, h2, List.take_succ_eq_append_getElem hm, List.mem_append]
    | false =>
      rw [if_neg (by decide), List.append_nil]
      refine ⟨h1, fun x => ?_⟩
      rw [h2, List.take_succ_eq_append_getElem hm, List.mem_append, List.mem_singleton]
      constructor
      · exact Or.inl
      · rintro (g | rfl)
        · exact g
        · simp only [Lib.keeps, decide_eq_false_iff_not, not_or, Decidable.not_not, e] at hk
          have e2 : zs.toArray[m - 1]! = zs[m - 1] := by simp [show m - 1 < zs.length by omega]
          rw [hk.2, e2]
          exact List.mem_take_iff_getElem.2 ⟨m - 1, by omega, rfl⟩
/-- What the library's sort and Compact leave. -/
theorem sort_compact (ss : List Txt) : Lib.compact (ss.mergeSort fun x y => decide (x ≤ y)) = srt ss := by
  have hp : (ss.mergeSort fun x y => decide (x ≤ y)).Pairwise (fun x y => ¬ y < x) := by
    have := List.pairwise_mergeSort (le := fun (x y : Txt) => decide (x ≤ y)) (fun a b c h1 h2 => by
      simp only [decide_eq_true_eq] at *
      exact List.le_trans h1 h2) (fun a b => by
      simp only [Bool.or_eq_true, decide_eq_true_eq]
      exact List.le_total a b) ss
    exact this.imp fun h => List.not_lt.2 (of_decide_eq_true h)
  obtain ⟨h1, h2⟩ := compact_inv _ hp _ (Nat.le_refl _)
  refine asc_ext h1 (srt_asc ss) fun x => ?_
  rw [srt_mem]
  have := h2 x
  rw [List.take_length] at this
  exact this.trans List.mem_mergeSort
end Idn
end Go.Proofs.Ytgchjfdldbadlaa
