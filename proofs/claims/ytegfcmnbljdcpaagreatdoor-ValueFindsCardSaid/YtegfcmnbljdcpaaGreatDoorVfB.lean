/-
  Layer 6, the code: slices.Insert of one value, whatever the place and the room.
-/
import Derived.Test.YtegfcmnbljdcpaaGreatDoorVfA
namespace Go.Proofs.YtegfcmnbljdcpaaGreatDoor
open Go.RowKit Go.ChangeShapes Go.WideShapes Go.Deep Go.Lib
namespace Val

theorem rowGet (vs : List Value) (o : Nat) (f : Nat → Value) (j : Nat) : (fun j => if o ≤ j ∧ j < o + vs.length then vs[j - o]?.getD default else f j) j = if o ≤ j ∧ j < o + vs.length then vs[j - o]?.getD default else f j := rfl
theorem grown_set {X w' : World} {g : Nat} (h : ∀ k, k < X.heap.size → k ≠ g → w'.heap[k]? = X.heap[k]?) (h1 : w'.os = X.os) (h2 : w'.tape = X.tape) (h3 : w'.output = X.output) (h4 : X.heap.size ≤ w'.heap.size) : X.grownBy w' (some g) :=
  ⟨h1, h2, h3, h4, fun k hk hne => h k hk (fun e => hne (by rw [e]))⟩

/-- A value behind a row of one's own, at a region's operation. -/
theorem endN {Y : World} {n c base g : Nat} {p : Option Addr} {xs : List Value} {x : Value} {ops : Array Oper} {rest : List Oper} {o : Oper} {a : Act} {Q : Exit → Act → World → Prop} (s y : Operand)
    (ho : o.op = .call { callee := .builtin .append, args := #[s, y], argTypes := #[23, 23] }) (hgd : o.guard = none) (hs : a.eval s = .slice p n c) (hx : a.eval y = .slice (some ⟨g, 0, none⟩) 1 1)
    (hown : Y.ownsRow base 9 1 (.slice p n c) n xs) (hcell : Y.cell? ⟨g, 0, none⟩ = some x) (h1x : x.oneCell' = true) (hn : n ≤ 1000000) (hbase : base ≤ Y.heap.size)
    (h : ∀ o3 c3 w', Hid (w'.ownsRow base 9 1 (.slice o3 (n + 1) c3) (n + 1) (xs ++ [x]) ∧ Y.grownBy w' (Value.slice p n c).ownBlock ∧ ((Value.slice o3 (n + 1) c3).ownBlock = (Value.slice p n c).ownBlock ∨ ∃ q, (Value.slice o3 (n + 1) c3).ownBlock = some q ∧ Y.heap.size ≤ q)) → wpList Tryz.prog ops Q rest (a.put o.dst (.slice o3 (n + 1) c3)) w') : wpList Tryz.prog ops Q (o :: rest) a Y := by
  obtain ⟨i0, hi, hz0, hz1, hz2⟩ := info_parts info_str
  refine wpList_append_own_at _ hgd s y 23 ho base 9 i0 _ 1 16 Tryz.underlying23 hi hz0 hz1 hz2 rfl (by decide) _ n _ hs hown ⟨g, 0, none⟩ 1 1 [x] hx rfl (fun j u hj => by
    match j, hj with
    | 0, hj =>
      simp only [List.getElem?_cons_zero, Option.some.injEq] at hj
      rw [add_at, ← hj]
      exact hcell) (fun u hu => by simp at hu; subst hu; exact h1x) (by unfold maxLen; omega) (by omega) hbase ?_
  intro v' w' ho' hg _ hat
  obtain ⟨o3, c3, rfl⟩ := own_shape ho'
  refine h o3 c3 w' (Lib.hid ⟨ho', hg, ?_⟩)
  rcases hat with hat | hat
  · exact Or.inl hat
  · exact Or.inr ⟨_, hat, Nat.le_refl _⟩
set_option maxHeartbeats 4000000 in
set_option maxRecDepth 100000 in
theorem insertN (base n c i : Nat) (o : Option Addr) (xs : List Value) (x : Value) (h1x : x.oneCell' = true) (h1 : ∀ v ∈ xs, v.oneCell' = true) (hi : i ≤ n) (hn : n ≤ 1000000) (X : World) (hbase : base ≤ X.heap.size) (hown : X.ownsRow base 9 1 (.slice o n c) n xs) :
    Calls Tryz.prog 37 #[.slice o n c, .int .i64 (i : Int), .slice (some ⟨X.heap.size, 0, none⟩) 1 1] (X.alloc (.cells #[x] 9)) fun e w' => InsTo base 9 X o n c (insV xs i x) e w' := by
  have hxc : (X.alloc (.cells #[x] 9)).cell? ⟨X.heap.size, 0, none⟩ = some x := by rw [World.cell?_alloc_new]; rfl
  have hY := own_on hown (Bel.alloc (Bel.refl X) (.cells #[x] 9))
  have hYs : (X.alloc (.cells #[x] 9)).heap.size = X.heap.size + 1 := by show (X.heap.push _).size = _; simp
  have hXY : ∀ k, k < X.heap.size → (X.alloc (.cells #[x] 9)).heap[k]? = X.heap[k]? := fun k hk => blk_alloc_lt _ _ _ hk
  have hvs : ∀ j v, [x][j]? = some v → (X.alloc (.cells #[x] 9)).cell? ⟨X.heap.size, 0 + j, none⟩ = some v := fun j v hj => by
    match j, hj with
    | 0, hj =>
      simp only [List.getElem?_cons_zero, Option.some.injEq] at hj
      rw [← hj]; exact hxc
  have h1v : ∀ v ∈ [x], v.oneCell' = true := fun v hv => by simp at hv; subst hv; exact h1x
  obtain ⟨hl, hrow⟩ := row_of_own hown
  by_cases hin : i = n
  · subst hin
    have hfin : ∀ o3 c3 w', (w'.ownsRow base 9 1 (.slice o3 (i + 1) c3) (i + 1) (xs ++ [x]) ∧ (X.alloc (.cells #[x] 9)).grownBy w' (Value.slice o i c).ownBlock ∧ ((Value.slice o3 (i + 1) c3).ownBlock = (Value.slice o i c).ownBlock ∨ ∃ q, (Value.slice o3 (i + 1) c3).ownBlock = some q ∧ (X.alloc (.cells #[x] 9)).heap.size ≤ q)) → InsTo base 9 X o i c (insV xs i x) (.returned (.slice o3 (i + 1) c3)) w' := by
      rintro o3 c3 w' ⟨q1, q2, q3⟩
      refine ⟨o3, c3, rfl, ?_, ⟨q2.os, q2.tape, q2.output, by have := q2.size; omega, fun k hk hne => (q2.block k (by omega) hne).trans (hXY k hk)⟩, ?_⟩
      · unfold insV
        rw [List.take_of_length_le (by omega), List.drop_of_length_le (by omega)]
        exact q1
      · rcases q3 with q3 | ⟨q, q3, q4⟩
        · exact Or.inl q3
        · exact Or.inr ⟨q, q3, by omega⟩
    have HF := Lib.hid hfin
    have HY := Lib.hid hY
    have HX := Lib.hid hxc
    have hbs : base ≤ (X.alloc (.cells #[x] 9)).heap.size := by omega
    have HB := Lib.hid hbs
    rcases hrow with ⟨rfl, rfl, rfl⟩ | ⟨g, f, rfl, hb, hr, hnc, hm, hxf⟩
    · clear hfin hY hxc hXY hvs h1v hYs hbs
      go_enter Tryz.func37, Tryz.ntmps37
      go_wp2_with (at_builtin; refine endN _ _ rfl rfl rfl rfl HY.out HX.out h1x (by omega) HB.out ?_; intro o3 c3 w' hR; refine Hid.out ?_)
      refine Lib.hid ?_
      go_wp2
      go_ret
      exact HF.out _ _ _ hR.out
    · have hc63 : c ≤ 9223372036854775807 := by unfold maxLen at hm; omega
      clear hfin hY hxc hXY hvs h1v hYs hbs hr hxf hm
      by_cases hcn : c = i
      all_goals
        go_enter Tryz.func37, Tryz.ntmps37
        go_wp2_with (at_builtin; refine endN _ _ rfl rfl rfl rfl HY.out HX.out h1x (by omega) HB.out ?_; intro o3 c3 w' hR; refine Hid.out ?_)
        refine Lib.hid ?_
        go_wp2
        go_ret
        exact HF.out _ _ _ hR.out
  · rcases hrow with ⟨_, h0, _⟩ | ⟨g, f, rfl, hb, hr, hnc, hm, hxf⟩
    · omega
    have hgl := hr.lt
    have hlt : i < n := by omega
    have hc63 : c ≤ 9223372036854775807 := by unfold maxLen at hm; omega
    have hr1 := hr.alloc (.cells #[x] 9)
    have hdl : (xs.drop i).length = n - i := by rw [List.length_drop, hl]
    have hcs : ∀ j v, xs[j]? = some v → (X.alloc (.cells #[x] 9)).cell? ⟨g, 0 + j, none⟩ = some v := fun j v hj => by
      have hjl : j < n := by
        rcases Nat.lt_or_ge j n with q | q
        · exact q
        · rw [List.getElem?_eq_none (by omega)] at hj; cases hj
      rw [Nat.zero_add, hr1.cell (by omega), ← hj]
      exact (hxf j hjl).symm
    have hdx : ∀ j, i < j → j < n + 1 → (xs.drop i)[j - (0 + (i + 1))]?.getD default = f (j - 1) := fun j h2 h3 => by
      rw [List.getElem?_drop, show i + (j - (0 + (i + 1))) = j - 1 by omega, hxf _ (by omega)]; rfl
    by_cases hroom : n + 1 ≤ c
    · refine (shiftN g 0 n c i X.heap.size 1 1 xs [x] _ hlt (by omega) (by omega) hn hroom hc63 (by omega) hl rfl hcs (fun j hj => by rw [Nat.zero_add, hr1.cell (by omega)]; rfl) (fun j _ => hr1.frozen _) hvs h1 h1v 9 9 1 c (by unfold World.shape?; rw [blk_alloc_new]; rfl) (by obtain ⟨cur, q1, q2, _⟩ := hr1; simp [World.shape?, q1, q2]) (by omega) (World.frozen?_alloc_new _ _ _ _) (World.frozen?_alloc_new _ _ _ _)).mono ?_
      rintro e w' ⟨rfl, hw⟩
      have hr2 := rowIs_setCells (xs.drop i) (0 + (i + 1)) _ _ hr1.drew
      have hr3 := rowIs_setCells [x] (0 + i) _ _ hr2
      rw [← hw] at hr3
      refine ⟨some ⟨g, 0, none⟩, c, rfl, own_of_row hr3 hb (by omega) hm (by rw [insV_len _ _ _ (by omega), hl]) (insV_get hl hi hxf ?_ ?_ ?_), grown_set (fun k hk hne => ?_) ?_ ?_ ?_ ?_, Or.inl rfl⟩
      · intro j hj
        show (if 0 + i ≤ j ∧ j < 0 + i + 1 then _ else if 0 + (i + 1) ≤ j ∧ j < 0 + (i + 1) + (xs.drop i).length then _ else f j) = _
        rw [if_neg (by omega), if_neg (by omega)]
      · show (if 0 + i ≤ i ∧ i < 0 + i + 1 then [x][i - (0 + i)]?.getD default else _) = _
        rw [if_pos (by omega), Nat.zero_add, Nat.sub_self]; rfl
      · intro j h2 h3
        show (if 0 + i ≤ j ∧ j < 0 + i + 1 then _ else if 0 + (i + 1) ≤ j ∧ j < 0 + (i + 1) + (xs.drop i).length then (xs.drop i)[j - (0 + (i + 1))]?.getD default else f j) = _
        rw [if_neg (by omega), if_pos (by rw [hdl]; omega)]
        exact hdx j h2 h3
      · rw [hw, setCells_far _ _ _ _ _ hne, setCells_far _ _ _ _ _ hne]
        exact hXY k hk
      · rw [hw]; exact ((setCells_same _ _ _ _).1.trans (setCells_same _ _ _ _).1)
      · rw [hw]; exact ((setCells_same _ _ _ _).2.1.trans (setCells_same _ _ _ _).2.1)
      · rw [hw]; exact ((setCells_same _ _ _ _).2.2.1.trans (setCells_same _ _ _ _).2.2.1)
      · rw [hw, (setCells_same _ _ _ _).2.2.2, (setCells_same _ _ _ _).2.2.2]
        show X.heap.size ≤ (X.heap.push _).size
        simp
    · refine (growN g 0 n c i X.heap.size 1 1 xs [x] _ hlt (by omega) (by omega) hn hnc (by omega) hl rfl hcs hvs h1 h1v).mono ?_
      rintro e w' ⟨G, ROW, rfl, hG1, hG2, hRs, hRh, hw⟩
      obtain ⟨Y, hYe⟩ : ∃ Y, X.alloc (.cells #[x] 9) = Y := ⟨_, rfl⟩
      rw [hYe] at hw hYs hXY ⊢
      have hr0 : (Y.alloc (.cells ROW 9)).rowIs Y.heap.size 9 G (fun j => ROW.getD j default) := by
        have := World.rowIs_alloc Y ROW 9 (fun j => ROW.getD j default) (fun j hj => by simp [Array.getD, hj])
        rw [hRs] at this
        exact this
      have hr2 := rowIs_setCells [x] i _ _ hr0.drew
      have hr3 := rowIs_setCells (xs.drop i) (i + 1) _ _ hr2.drew
      rw [← hw] at hr3
      have hYX : Y.os = X.os ∧ Y.tape = X.tape ∧ Y.output = X.output := by rw [← hYe]; exact ⟨rfl, rfl, rfl⟩
      refine ⟨some ⟨Y.heap.size, 0, none⟩, G, rfl, own_of_row hr3 (by omega) (by omega) hG2 (by rw [insV_len _ _ _ (by omega), hl]) (insV_get hl hi hxf ?_ ?_ ?_), ⟨?_, ?_, ?_, ?_, fun k hk _ => ?_⟩, Or.inr ⟨Y.heap.size, rfl, by omega⟩⟩
      · intro j hj
        show (if i + 1 ≤ j ∧ j < i + 1 + (xs.drop i).length then _ else if i ≤ j ∧ j < i + 1 then _ else ROW.getD j default) = _
        rw [if_neg (by omega), if_neg (by omega)]
        have q := hRh j _ hj (hxf j (by omega))
        rw [Array.getD_eq_getD_getElem?, q]; rfl
      · show (if i + 1 ≤ i ∧ i < i + 1 + (xs.drop i).length then _ else if i ≤ i ∧ i < i + 1 then [x][i - i]?.getD default else _) = _
        rw [if_neg (by omega), if_pos (by omega), Nat.sub_self]; rfl
      · intro j h2 h3
        show (if i + 1 ≤ j ∧ j < i + 1 + (xs.drop i).length then (xs.drop i)[j - (i + 1)]?.getD default else _) = _
        rw [if_pos (by rw [hdl]; omega)]
        have := hdx j h2 h3
        rwa [Nat.zero_add] at this
      · rw [hw, (setCells_same _ _ _ _).1]
        exact ((setCells_same Y.heap.size [x] i ((Y.alloc (.cells ROW 9)).drew)).1).trans hYX.1
      · rw [hw, (setCells_same _ _ _ _).2.1]
        exact ((setCells_same Y.heap.size [x] i ((Y.alloc (.cells ROW 9)).drew)).2.1).trans hYX.2.1
      · rw [hw, (setCells_same _ _ _ _).2.2.1]
        exact ((setCells_same Y.heap.size [x] i ((Y.alloc (.cells ROW 9)).drew)).2.2.1).trans hYX.2.2
      · rw [hw, (setCells_same _ _ _ _).2.2.2]
        show X.heap.size ≤ (World.setCells _ _ _ _).heap.size
        rw [(setCells_same _ _ _ _).2.2.2]
        show X.heap.size ≤ (Y.heap.push _).size
        simp; omega
      · rw [hw, setCells_far _ _ _ _ _ (by omega)]
        show (World.setCells _ _ _ _).heap[k]? = _
        rw [setCells_far _ _ _ _ _ (by omega)]
        exact (blk_alloc_lt Y _ _ (by omega)).trans (hXY k hk)

/-- A value behind a row of one's own, at a region's operation. -/
theorem endV {Y : World} {n c base g : Nat} {p : Option Addr} {xs : List Value} {x : Value} {ops : Array Oper} {rest : List Oper} {o : Oper} {a : Act} {Q : Exit → Act → World → Prop} (s y : Operand)
    (ho : o.op = .call { callee := .builtin .append, args := #[s, y], argTypes := #[27, 27] }) (hgd : o.guard = none) (hs : a.eval s = .slice p n c) (hx : a.eval y = .slice (some ⟨g, 0, none⟩) 1 1)
    (hown : Y.ownsRow base 22 1 (.slice p n c) n xs) (hcell : Y.cell? ⟨g, 0, none⟩ = some x) (h1x : x.oneCell' = true) (hn : n ≤ 1000000) (hbase : base ≤ Y.heap.size)
    (h : ∀ o3 c3 w', Hid (w'.ownsRow base 22 1 (.slice o3 (n + 1) c3) (n + 1) (xs ++ [x]) ∧ Y.grownBy w' (Value.slice p n c).ownBlock ∧ ((Value.slice o3 (n + 1) c3).ownBlock = (Value.slice p n c).ownBlock ∨ ∃ q, (Value.slice o3 (n + 1) c3).ownBlock = some q ∧ Y.heap.size ≤ q)) → wpList Tryz.prog ops Q rest (a.put o.dst (.slice o3 (n + 1) c3)) w') : wpList Tryz.prog ops Q (o :: rest) a Y := by
  obtain ⟨i0, hi, hz0, hz1, hz2⟩ := info_parts info_sl
  refine wpList_append_own_at _ hgd s y 27 ho base 22 i0 _ 1 24 Tryz.underlying27 hi hz0 hz1 hz2 rfl (by decide) _ n _ hs hown ⟨g, 0, none⟩ 1 1 [x] hx rfl (fun j u hj => by
    match j, hj with
    | 0, hj =>
      simp only [List.getElem?_cons_zero, Option.some.injEq] at hj
      rw [add_at, ← hj]
      exact hcell) (fun u hu => by simp at hu; subst hu; exact h1x) (by unfold maxLen; omega) (by omega) hbase ?_
  intro v' w' ho' hg _ hat
  obtain ⟨o3, c3, rfl⟩ := own_shape ho'
  refine h o3 c3 w' (Lib.hid ⟨ho', hg, ?_⟩)
  rcases hat with hat | hat
  · exact Or.inl hat
  · exact Or.inr ⟨_, hat, Nat.le_refl _⟩
set_option maxHeartbeats 4000000 in
set_option maxRecDepth 100000 in
theorem insertV (base n c i : Nat) (o : Option Addr) (xs : List Value) (x : Value) (h1x : x.oneCell' = true) (h1 : ∀ v ∈ xs, v.oneCell' = true) (hi : i ≤ n) (hn : n ≤ 1000000) (X : World) (hbase : base ≤ X.heap.size) (hown : X.ownsRow base 22 1 (.slice o n c) n xs) :
    Calls Tryz.prog 38 #[.slice o n c, .int .i64 (i : Int), .slice (some ⟨X.heap.size, 0, none⟩) 1 1] (X.alloc (.cells #[x] 22)) fun e w' => InsTo base 22 X o n c (insV xs i x) e w' := by
  have hxc : (X.alloc (.cells #[x] 22)).cell? ⟨X.heap.size, 0, none⟩ = some x := by rw [World.cell?_alloc_new]; rfl
  have hY := own_on hown (Bel.alloc (Bel.refl X) (.cells #[x] 22))
  have hYs : (X.alloc (.cells #[x] 22)).heap.size = X.heap.size + 1 := by show (X.heap.push _).size = _; simp
  have hXY : ∀ k, k < X.heap.size → (X.alloc (.cells #[x] 22)).heap[k]? = X.heap[k]? := fun k hk => blk_alloc_lt _ _ _ hk
  have hvs : ∀ j v, [x][j]? = some v → (X.alloc (.cells #[x] 22)).cell? ⟨X.heap.size, 0 + j, none⟩ = some v := fun j v hj => by
    match j, hj with
    | 0, hj =>
      simp only [List.getElem?_cons_zero, Option.some.injEq] at hj
      rw [← hj]; exact hxc
  have h1v : ∀ v ∈ [x], v.oneCell' = true := fun v hv => by simp at hv; subst hv; exact h1x
  obtain ⟨hl, hrow⟩ := row_of_own hown
  by_cases hin : i = n
  · subst hin
    have hfin : ∀ o3 c3 w', (w'.ownsRow base 22 1 (.slice o3 (i + 1) c3) (i + 1) (xs ++ [x]) ∧ (X.alloc (.cells #[x] 22)).grownBy w' (Value.slice o i c).ownBlock ∧ ((Value.slice o3 (i + 1) c3).ownBlock = (Value.slice o i c).ownBlock ∨ ∃ q, (Value.slice o3 (i + 1) c3).ownBlock = some q ∧ (X.alloc (.cells #[x] 22)).heap.size ≤ q)) → InsTo base 22 X o i c (insV xs i x) (.returned (.slice o3 (i + 1) c3)) w' := by
      rintro o3 c3 w' ⟨q1, q2, q3⟩
      refine ⟨o3, c3, rfl, ?_, ⟨q2.os, q2.tape, q2.output, by have := q2.size; omega, fun k hk hne => (q2.block k (by omega) hne).trans (hXY k hk)⟩, ?_⟩
      · unfold insV
        rw [List.take_of_length_le (by omega), List.drop_of_length_le (by omega)]
        exact q1
      · rcases q3 with q3 | ⟨q, q3, q4⟩
        · exact Or.inl q3
        · exact Or.inr ⟨q, q3, by omega⟩
    have HF := Lib.hid hfin
    have HY := Lib.hid hY
    have HX := Lib.hid hxc
    have hbs : base ≤ (X.alloc (.cells #[x] 22)).heap.size := by omega
    have HB := Lib.hid hbs
    rcases hrow with ⟨rfl, rfl, rfl⟩ | ⟨g, f, rfl, hb, hr, hnc, hm, hxf⟩
    · clear hfin hY hxc hXY hvs h1v hYs hbs
      go_enter Tryz.func38, Tryz.ntmps38
      go_wp2_with (at_builtin; refine endV _ _ rfl rfl rfl rfl HY.out HX.out h1x (by omega) HB.out ?_; intro o3 c3 w' hR; refine Hid.out ?_)
      refine Lib.hid ?_
      go_wp2
      go_ret
      exact HF.out _ _ _ hR.out
    · have hc63 : c ≤ 9223372036854775807 := by unfold maxLen at hm; omega
      clear hfin hY hxc hXY hvs h1v hYs hbs hr hxf hm
      by_cases hcn : c = i
      all_goals
        go_enter Tryz.func38, Tryz.ntmps38
        go_wp2_with (at_builtin; refine endV _ _ rfl rfl rfl rfl HY.out HX.out h1x (by omega) HB.out ?_; intro o3 c3 w' hR; refine Hid.out ?_)
        refine Lib.hid ?_
        go_wp2
        go_ret
        exact HF.out _ _ _ hR.out
  · rcases hrow with ⟨_, h0, _⟩ | ⟨g, f, rfl, hb, hr, hnc, hm, hxf⟩
    · omega
    have hgl := hr.lt
    have hlt : i < n := by omega
    have hc63 : c ≤ 9223372036854775807 := by unfold maxLen at hm; omega
    have hr1 := hr.alloc (.cells #[x] 22)
    have hdl : (xs.drop i).length = n - i := by rw [List.length_drop, hl]
    have hcs : ∀ j v, xs[j]? = some v → (X.alloc (.cells #[x] 22)).cell? ⟨g, 0 + j, none⟩ = some v := fun j v hj => by
      have hjl : j < n := by
        rcases Nat.lt_or_ge j n with q | q
        · exact q
        · rw [List.getElem?_eq_none (by omega)] at hj; cases hj
      rw [Nat.zero_add, hr1.cell (by omega), ← hj]
      exact (hxf j hjl).symm
    have hdx : ∀ j, i < j → j < n + 1 → (xs.drop i)[j - (0 + (i + 1))]?.getD default = f (j - 1) := fun j h2 h3 => by
      rw [List.getElem?_drop, show i + (j - (0 + (i + 1))) = j - 1 by omega, hxf _ (by omega)]; rfl
    by_cases hroom : n + 1 ≤ c
    · refine (shiftV g 0 n c i X.heap.size 1 1 xs [x] _ hlt (by omega) (by omega) hn hroom hc63 (by omega) hl rfl hcs (fun j hj => by rw [Nat.zero_add, hr1.cell (by omega)]; rfl) (fun j _ => hr1.frozen _) hvs h1 h1v 22 22 1 c (by unfold World.shape?; rw [blk_alloc_new]; rfl) (by obtain ⟨cur, q1, q2, _⟩ := hr1; simp [World.shape?, q1, q2]) (by omega) (World.frozen?_alloc_new _ _ _ _) (World.frozen?_alloc_new _ _ _ _)).mono ?_
      rintro e w' ⟨rfl, hw⟩
      have hr2 := rowIs_setCells (xs.drop i) (0 + (i + 1)) _ _ hr1.drew
      have hr3 := rowIs_setCells [x] (0 + i) _ _ hr2
      rw [← hw] at hr3
      refine ⟨some ⟨g, 0, none⟩, c, rfl, own_of_row hr3 hb (by omega) hm (by rw [insV_len _ _ _ (by omega), hl]) (insV_get hl hi hxf ?_ ?_ ?_), grown_set (fun k hk hne => ?_) ?_ ?_ ?_ ?_, Or.inl rfl⟩
      · intro j hj
        show (if 0 + i ≤ j ∧ j < 0 + i + 1 then _ else if 0 + (i + 1) ≤ j ∧ j < 0 + (i + 1) + (xs.drop i).length then _ else f j) = _
        rw [if_neg (by omega), if_neg (by omega)]
      · show (if 0 + i ≤ i ∧ i < 0 + i + 1 then [x][i - (0 + i)]?.getD default else _) = _
        rw [if_pos (by omega), Nat.zero_add, Nat.sub_self]; rfl
      · intro j h2 h3
        show (if 0 + i ≤ j ∧ j < 0 + i + 1 then _ else if 0 + (i + 1) ≤ j ∧ j < 0 + (i + 1) + (xs.drop i).length then (xs.drop i)[j - (0 + (i + 1))]?.getD default else f j) = _
        rw [if_neg (by omega), if_pos (by rw [hdl]; omega)]
        exact hdx j h2 h3
      · rw [hw, setCells_far _ _ _ _ _ hne, setCells_far _ _ _ _ _ hne]
        exact hXY k hk
      · rw [hw]; exact ((setCells_same _ _ _ _).1.trans (setCells_same _ _ _ _).1)
      · rw [hw]; exact ((setCells_same _ _ _ _).2.1.trans (setCells_same _ _ _ _).2.1)
      · rw [hw]; exact ((setCells_same _ _ _ _).2.2.1.trans (setCells_same _ _ _ _).2.2.1)
      · rw [hw, (setCells_same _ _ _ _).2.2.2, (setCells_same _ _ _ _).2.2.2]
        show X.heap.size ≤ (X.heap.push _).size
        simp
    · refine (growV g 0 n c i X.heap.size 1 1 xs [x] _ hlt (by omega) (by omega) hn hnc (by omega) hl rfl hcs hvs h1 h1v).mono ?_
      rintro e w' ⟨G, ROW, rfl, hG1, hG2, hRs, hRh, hw⟩
      obtain ⟨Y, hYe⟩ : ∃ Y, X.alloc (.cells #[x] 22) = Y := ⟨_, rfl⟩
      rw [hYe] at hw hYs hXY ⊢
      have hr0 : (Y.alloc (.cells ROW 22)).rowIs Y.heap.size 22 G (fun j => ROW.getD j default) := by
        have := World.rowIs_alloc Y ROW 22 (fun j => ROW.getD j default) (fun j hj => by simp [Array.getD, hj])
        rw [hRs] at this
        exact this
      have hr2 := rowIs_setCells [x] i _ _ hr0.drew
      have hr3 := rowIs_setCells (xs.drop i) (i + 1) _ _ hr2.drew
      rw [← hw] at hr3
      have hYX : Y.os = X.os ∧ Y.tape = X.tape ∧ Y.output = X.output := by rw [← hYe]; exact ⟨rfl, rfl, rfl⟩
      refine ⟨some ⟨Y.heap.size, 0, none⟩, G, rfl, own_of_row hr3 (by omega) (by omega) hG2 (by rw [insV_len _ _ _ (by omega), hl]) (insV_get hl hi hxf ?_ ?_ ?_), ⟨?_, ?_, ?_, ?_, fun k hk _ => ?_⟩, Or.inr ⟨Y.heap.size, rfl, by omega⟩⟩
      · intro j hj
        show (if i + 1 ≤ j ∧ j < i + 1 + (xs.drop i).length then _ else if i ≤ j ∧ j < i + 1 then _ else ROW.getD j default) = _
        rw [if_neg (by omega), if_neg (by omega)]
        have q := hRh j _ hj (hxf j (by omega))
        rw [Array.getD_eq_getD_getElem?, q]; rfl
      · show (if i + 1 ≤ i ∧ i < i + 1 + (xs.drop i).length then _ else if i ≤ i ∧ i < i + 1 then [x][i - i]?.getD default else _) = _
        rw [if_neg (by omega), if_pos (by omega), Nat.sub_self]; rfl
      · intro j h2 h3
        show (if i + 1 ≤ j ∧ j < i + 1 + (xs.drop i).length then (xs.drop i)[j - (i + 1)]?.getD default else _) = _
        rw [if_pos (by rw [hdl]; omega)]
        have := hdx j h2 h3
        rwa [Nat.zero_add] at this
      · rw [hw, (setCells_same _ _ _ _).1]
        exact ((setCells_same Y.heap.size [x] i ((Y.alloc (.cells ROW 22)).drew)).1).trans hYX.1
      · rw [hw, (setCells_same _ _ _ _).2.1]
        exact ((setCells_same Y.heap.size [x] i ((Y.alloc (.cells ROW 22)).drew)).2.1).trans hYX.2.1
      · rw [hw, (setCells_same _ _ _ _).2.2.1]
        exact ((setCells_same Y.heap.size [x] i ((Y.alloc (.cells ROW 22)).drew)).2.2.1).trans hYX.2.2
      · rw [hw, (setCells_same _ _ _ _).2.2.2]
        show X.heap.size ≤ (World.setCells _ _ _ _).heap.size
        rw [(setCells_same _ _ _ _).2.2.2]
        show X.heap.size ≤ (Y.heap.push _).size
        simp; omega
      · rw [hw, setCells_far _ _ _ _ _ (by omega)]
        show (World.setCells _ _ _ _).heap[k]? = _
        rw [setCells_far _ _ _ _ _ (by omega)]
        exact (blk_alloc_lt Y _ _ (by omega)).trans (hXY k hk)
end Val
end Go.Proofs.YtegfcmnbljdcpaaGreatDoor
