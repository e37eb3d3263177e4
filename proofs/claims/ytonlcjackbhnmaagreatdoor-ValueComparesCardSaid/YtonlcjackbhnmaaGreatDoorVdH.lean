/-
  Layer 6: the order of values, as the program has it: ordering, cmpCells, CompareFunc, Cmp.
-/
import Derived.Test.YtonlcjackbhnmaaGreatDoorMK
import Derived.Test.YtonlcjackbhnmaaGreatDoorME
namespace Go.Proofs.YtonlcjackbhnmaaGreatDoor
open Go.RowKit Go.ChangeShapes Go.WideShapes
namespace Val

/-- A cell behind cells that one owns, at a region's operation. -/
theorem cel_app {Y : World} {base m c : Nat} {p : Option Addr} {l : List Cel} {g : Nat} {k i n : Int} {X : ByteArray} {ops : Array Oper} {rest : List Oper} {o : Oper} {a : Act} {Q : Exit → Act → World → Prop} (s x : Operand)
    (ho : o.op = .call { callee := .builtin .append, args := #[s, x], argTypes := #[22, 22] }) (hgd : o.guard = none) (hs : a.eval s = .slice p m c) (hx : a.eval x = .slice (some ⟨g, 0, none⟩) 1 1)
    (hcell : Y.cell? ⟨g, 0, none⟩ = some (.int .i64 k) ∧ Y.cell? ⟨g, 1, none⟩ = some (.int .i64 i) ∧ Y.cell? ⟨g, 2, none⟩ = some (.string X) ∧ Y.cell? ⟨g, 3, none⟩ = some (.int .i64 n)) (hown : Y.ownsRow base 44 4 (.slice p m c) m (encCs l)) (hm : m ≤ 1000000000) (hbase : base ≤ Y.heap.size)
    (h : ∀ o3 c3 w', Hid (w'.ownsRow base 44 4 (.slice o3 (m + 1) c3) (m + 1) (encCs (l ++ [⟨k, i, X.toList, n⟩]))) → Hid (Mod (Blk p) Y w') → Hid (∀ q, Blk o3 q → Blk p q ∨ Y.heap.size ≤ q) → wpList Tryz.prog ops Q rest (a.put o.dst (.slice o3 (m + 1) c3)) w') : wpList Tryz.prog ops Q (o :: rest) a Y :=
  wpList_plain hgd fun K hK => by
    obtain ⟨i0, hi, hz0, hz1, hz2⟩ := info_parts info_cell
    obtain ⟨v', w', r, h2, h3, h4⟩ := app_fresh Y base 22 o.type 44 i0 _ 4 40 Tryz.underlying22 hi hz0 hz1 hz2 rfl (by decide) _ m _ hown ⟨g, 0, none⟩ 1 1 [.int .i64 k, .int .i64 i, .string X, .int .i64 n] rfl
      (fun j v hj => by
        match j, hj with
        | 0, hj => simp only [List.getElem?_cons_zero, Option.some.injEq] at hj; rw [Lib.add_plain, ← hj]; exact hcell.1
        | 1, hj => simp only [List.getElem?_cons_zero, List.getElem?_cons_succ, Option.some.injEq] at hj; rw [Lib.add_plain, ← hj]; exact hcell.2.1
        | 2, hj => simp only [List.getElem?_cons_zero, List.getElem?_cons_succ, Option.some.injEq] at hj; rw [Lib.add_plain, ← hj]; exact hcell.2.2.1
        | 3, hj => simp only [List.getElem?_cons_zero, List.getElem?_cons_succ, Option.some.injEq] at hj; rw [Lib.add_plain, ← hj]; exact hcell.2.2.2) (fun v hv => by simp only [List.mem_cons, List.not_mem_nil, or_false] at hv; rcases hv with rfl | rfl | rfl | rfl <;> rfl) (by unfold maxLen; omega) (by omega) hbase
    obtain ⟨p2, c2, rfl, -⟩ := own4_shape h2
    unfold Oper.wp execOp
    simp only [ho, resolve, invoke, builtin, Sem.run_bind, Sem.run_pure, Result.andThen_ok, List.map_toArray, List.map_cons, List.map_nil, hs, hx]
    simp only [r]
    have e : encCs (l ++ [⟨k, i, X.toList, n⟩]) = encCs l ++ [.int .i64 k, .int .i64 i, .string X, .int .i64 n] := by
      rw [encCs_app]
      show _ ++ (encC ⟨k, i, X.toList, n⟩ ++ []) = _
      rw [List.append_nil]
      unfold encC
      rw [str_back]
    refine hK _ _ (h p2 c2 w' (Lib.hid (by rw [e]; exact h2)) (Lib.hid (Mod.grown h3 (fun i hi => (blk_of hown).2 hi))) (Lib.hid fun q hq => ?_))
    have hk2 := (blk_of h2).1 hq
    rcases h4 with h4 | h4
    · rw [h4] at hk2
      exact Or.inl ((blk_of hown).2 hk2)
    · rw [h4, Option.some.injEq] at hk2
      exact Or.inr (by omega)
/-- What ordering keeps of what was visited. -/
structure JO (g base : Nat) (es : List Ev) (F : Nat → Prop) (w : World) : Prop where
  row : ∃ o n c, (∀ k, F k ↔ k = g ∨ Blk o k) ∧ w.ownsRow base 44 4 (.slice o n c) n (encCs (cells es)) ∧ VarB w g (.slice o n c)
  size : g < base ∧ base ≤ w.heap.size
  fit : ∀ x ∈ cells es, Fits x
set_option maxRecDepth 100000 in
theorem order_visitor (g base : Nat) : Visitor 72 #[.pointer (some ⟨g, 0, none⟩)] (JO g base) where
  enters := fun args w => rfl
  stay := fun h hs hF => by
    obtain ⟨o, n, c, h1, h2, h3⟩ := h.row
    exact ⟨⟨o, n, c, h1, own_same h2 (fun b hb => hF b ((h1 b).2 (Or.inr ((blk_of h2).2 hb)))), h3.same (hF _ ((h1 _).2 (Or.inl rfl)))⟩, ⟨h.size.1, Nat.le_trans h.size.2 hs⟩, h.fit⟩
  lt := fun h k hk => by
    obtain ⟨o, n, c, h1, h2, h3⟩ := h.row
    rcases (h1 k).1 hk with rfl | hb
    · exact h3.lt
    · exact (h2.lt k ((blk_of h2).1 hb)).2
  call := fun es F w c s hJ hf hs hl hi hp he => by
    obtain ⟨o, m, c', hF, hT, hV⟩ := hJ.row
    have hsz := hJ.size
    have hfit := hJ.fit
    obtain ⟨k, i, x, n⟩ := c
    obtain ⟨lev, ink, part⟩ := s
    obtain ⟨X, hX⟩ : ∃ X : ByteArray, ⟨x.toArray⟩ = X := ⟨_, rfl⟩
    obtain rfl : x = X.toList := by rw [← hX, tl x]
    have hml : (cells es).length = m := by have := hT.1; rw [encCs_len] at this; omega
    have hme : m ≤ 4000000 := by rw [← hml]; unfold cells; rw [List.length_map]; exact he
    obtain ⟨W, hW⟩ : ∃ W, (w.alloc (.cells #[.int .i64 k, .int .i64 i, .string X, .int .i64 n] 44)).alloc (.cells #[.int .i64 lev, .int .i64 ink, .int .i64 part] 72) = W := ⟨_, rfl⟩
    have B0 : Bel w W := by rw [← hW]; exact Bel.alloc (Bel.alloc (Bel.refl w) _) _
    have v0 := hV.mod (Mod.of_bel (F := fun _ => False) B0) id
    obtain ⟨bc0, bc1, bc2, bc3⟩ : (W.cell? ⟨w.heap.size, 0, none⟩ = some (.int .i64 k) ∧ W.cell? ⟨w.heap.size, 1, none⟩ = some (.int .i64 i) ∧ W.cell? ⟨w.heap.size, 2, none⟩ = some (.string X) ∧ W.cell? ⟨w.heap.size, 3, none⟩ = some (.int .i64 n)) := by
      obtain ⟨a, b, c, d⟩ := boxC w k i n X 44
      rw [← hW]
      exact ⟨(Bel.alloc (Bel.refl _) _).cell' a, (Bel.alloc (Bel.refl _) _).cell' b, (Bel.alloc (Bel.refl _) _).cell' c, (Bel.alloc (Bel.refl _) _).cell' d⟩
    have B1 : Bel W (W.alloc (.cells #[.int .i64 k, .int .i64 i, .string X, .int .i64 n] 44)) := Bel.alloc (Bel.refl W) _
    have own1 := Lib.hid (own_belz hT (Bel.trans B0 B1))
    have lit := Lib.hid (boxC W k i n X 44)
    have hb1 := Lib.hid (Nat.le_trans hsz.2 (Bel.trans B0 B1).size)
    have HB := Lib.hid (Bel.trans B0 B1)
    have nb : Hid (¬ Blk o g) := Lib.hid (fun hb => by have := (hT.lt g ((blk_of hT).1 hb)).1; omega)
    have v1 := Lib.hid (v0.mod (Mod.of_bel (F := fun _ => False) B1) id)
    have c0 := v0.1
    have HF := Lib.hid hF
    have HFit := Lib.hid hfit
    have Hf := Lib.hid hf
    rw [celV_str, sptV]
    show Calls Tryz.prog 72 #[.agg #[.int .i64 k, .int .i64 i, .string X, .int .i64 n], .agg #[.int .i64 lev, .int .i64 ink, .int .i64 part], .pointer (some ⟨g, 0, none⟩)] w _
    clear hX v0 B0 B1 hJ hf hF hT hV he hl hi hp hs hml hfit
    go_enter Tryz.func72, Tryz.ntmps72
    go_upto_region 1 with (fail)
    clear hW
    go_wp2_with (at_builtin; refine cel_app _ _ rfl rfl rfl rfl lit.out own1.out (by omega) hb1.out ?_)
    rintro o3 c3 w3 hown hmod hat
    have v3 := v1.out.mod hmod.out nb.out
    have V3 := Lib.hid v3
    have c3' := v3.1
    have fz := v3.2
    clear v3 c0 bc0 bc1 bc2 bc3
    go_wp2
    ((try simp only [Exit.inBlock, Exit.then]); first | (refine bodyPost_end (results_none rfl _ _ _) rfl ?_) | (refine bodyPost_ret (results_none rfl _ _ _) rfl ?_))
    refine ⟨rfl, fun q => q = g ∨ Blk o3 q, ⟨⟨o3, m + 1, c3, fun k => Iff.rfl, ?_, V3.out.set _⟩, ⟨hsz.1, ?_⟩, ?_⟩, ?_, ?_⟩
    · rw [cells_app]
      exact own_same hown.out fun b hb => Below.heap_setCell _ _ _ _ (fun e => by have h1 := (hown.out.lt b hb).1; have h2 := hsz.1; simp only at e; omega)
    · exact Nat.le_trans (Nat.le_trans hb1.out hmod.out.size) (by simp [World.setCell])
    · intro y hy
      rw [cells_app] at hy
      rcases List.mem_append.1 hy with hy | hy
      · exact HFit.out y hy
      · rw [List.mem_singleton.1 hy]
        exact Hf.out
    · exact ((Mod.of_bel (F := F) HB.out).trans hmod.out (fun q hq => Or.inl ((HF.out q).2 (Or.inr hq)))).setCell (Or.inl ((HF.out g).2 (Or.inl rfl))) _
    · rintro q (rfl | hq)
      · exact Or.inl ((HF.out _).2 (Or.inl rfl))
      · rcases hat.out q hq with h | h
        · exact Or.inl ((HF.out q).2 (Or.inr h))
        · exact Or.inr (Nat.le_trans HB.out.size (by simpa using h))
mutual
theorem evs_len : ∀ (v : V) (s : Spt), (evs v s).length ≤ 2 * (flat v).length
  | .null, s => by simp [evs, flat]
  | .bool b, s => by simp [evs, flat]
  | .int n, s => by simp [evs, flat]
  | .str x, s => by simp [evs, flat]
  | .list l, s => by
    have := evsL_len l (s.lev + 1) 0
    simp only [evs, flat, List.length_cons, List.length_append, List.length_nil]
    omega
  | .map m, s => by
    have := evsM_len m (s.lev + 1) 0
    simp only [evs, flat, List.length_cons, List.length_append, List.length_nil]
    omega
theorem evsL_len : ∀ (l : L) (lv p : Int), (evsL lv p l).length ≤ 2 * (flatL l).length
  | .nil, lv, p => by simp [evsL, flatL]
  | .cons v r, lv, p => by
    have h1 := evs_len v ⟨lv, 5, p⟩
    have h2 := evsL_len r lv (p + 1)
    simp only [evsL, flatL, List.length_append]
    omega
theorem evsM_len : ∀ (l : M) (lv p : Int), (evsM lv p l).length ≤ 2 * (flatM l).length
  | .nil, lv, p => by simp [evsM, flatM]
  | .cons k v r, lv, p => by
    have h1 := evs_len v ⟨lv, 6, p + 1⟩
    have h2 := evsM_len r lv (p + 2)
    simp only [evsM, flatM, List.length_append, List.length_cons]
    omega
end
set_option maxRecDepth 100000 in
set_option maxHeartbeats 4000000 in
theorem ordering_any (l : List Cel) (v : V) (hp : par l = some v) (o : Option Addr) (n c : Nat) (hn : n ≤ 1000000) (hss : Shrt l) (w : World) (hA : CArg w o n l) :
    Calls Tryz.prog 44 #[.slice o n c] w fun e w' => (∃ p m q, e = .returned (.slice p m q) ∧ CArg w' p m (cells (evs v spt0)) ∧ m ≤ 2 * n) ∧ Bel w w' := by
  have hmf : ∀ (fn : Fn) (first cap : Array Value) (w : World), (Instr.makeFunc fn first cap).run Tryz.prog w = .ok (.func fn first cap) w := fun _ _ _ _ => rfl
  have HA := Lib.hid hA
  have hw := Lib.hid (wlk_some hp)
  have hle := Lib.hid (show (cells (evs v spt0)).length ≤ 2 * n by
    have h1 := evs_len v spt0
    obtain ⟨-, hlv⟩ := par_some.1 hp
    have h2 := hA.1
    rw [hlv] at h2
    unfold cells
    rw [List.length_map]
    omega)
  have J0 : JO w.heap.size (w.heap.size + 1) [] (fun k => k = w.heap.size ∨ Blk none k) (w.alloc (.cells #[.slice none 0 0] 22)) := ⟨⟨none, 0, 0, fun k => Iff.rfl, World.ownsRow_nil _ _ _ _, VarB.new _ _ _⟩, ⟨by omega, by simp⟩, fun x hx => (by cases hx)⟩
  have hwalk := Lib.hid (walk_any (order_visitor w.heap.size (w.heap.size + 1)) l [] _ o n c _ hn hss (by decide) J0 (hA.on (Bel.alloc (Bel.refl w) _)) (fun hpos b off e hk => by
    have := not_blk_arg hA hpos b off e
    rcases hk with h | ⟨off, h⟩
    · omega
    · cases h))
  clear J0 hA hp
  go_enter Tryz.func44, Tryz.ntmps44
  go_wp2_with fail
  refine hwalk.out.mono ?_
  rintro e w2 ⟨rfl, F2, j2, m2, -⟩
  have hB : Hid (Bel w w2) := Lib.hid (Mod.bel_of (Bel.alloc (Bel.refl w) _) m2 (fun i hi => by
    rcases hi with h | ⟨off, h⟩
    · rw [h]; exact Nat.le_refl _
    · cases h))
  rw [hw.out] at j2
  obtain ⟨o2, n2, c2, -, hT, hV⟩ := (j2 rfl).row
  have hfit := (j2 rfl).fit
  rw [List.nil_append] at hT hfit
  have HC := Lib.hid (own_cArg hT hfit)
  have c0 := hV.1
  clear j2 hT hV m2 hwalk hfit
  go_wp2
  go_ret
  exact ⟨⟨o2, n2, c2, rfl, HC.out, by rw [← HC.out.1]; exact hle.out⟩, hB.out⟩
theorem cmpK_any (a b : Int) (w : World) : Calls Tryz.prog 74 #[.int .i64 a, .int .i64 b] w fun e w' => e = .returned (.int .i64 (ord a b)) ∧ w = w' := by
  have hn : ∀ (x : Int) (w : World), Calls Tryz.prog 100 #[.int .i64 x] w fun e w' => e = .returned (.bool false) ∧ w = w' := fun x w => by
    go_enter Tryz.func100, Tryz.ntmps100
    go_wp2
    go_ret
    exact ⟨by simp, rfl⟩
  have HN := Lib.hid hn
  clear hn
  obtain ⟨z, hz⟩ : ∃ z, ord a b = z := ⟨_, rfl⟩
  rw [hz]
  unfold ord at hz
  have HZ := Lib.hid hz
  clear hz
  by_cases h1 : a < b
  · have hr : Hid (z = -1) := Lib.hid (by rw [← HZ.out, if_pos h1])
    go_enter Tryz.func74, Tryz.ntmps74
    go_wp2_with (go_at_call 100; (with_reducible refine (HN.out _ _).mono ?_); rintro e w' ⟨rfl, rfl⟩)
    go_ret
    exact ⟨by rw [hr.out]; rfl, rfl⟩
  · by_cases h2 : b < a
    · have hr : Hid (z = 1) := Lib.hid (by rw [← HZ.out, if_neg h1, if_pos h2])
      go_enter Tryz.func74, Tryz.ntmps74
      go_wp2_with (go_at_call 100; (with_reducible refine (HN.out _ _).mono ?_); rintro e w' ⟨rfl, rfl⟩)
      go_ret
      exact ⟨by rw [hr.out]; rfl, rfl⟩
    · have hr : Hid (z = 0) := Lib.hid (by rw [← HZ.out, if_neg h1, if_neg h2])
      go_enter Tryz.func74, Tryz.ntmps74
      go_wp2_with (go_at_call 100; (with_reducible refine (HN.out _ _).mono ?_); rintro e w' ⟨rfl, rfl⟩)
      go_ret
      exact ⟨by rw [hr.out]; rfl, rfl⟩
theorem cmpI_any (a b : Int) (w : World) : Calls Tryz.prog 75 #[.int .i64 a, .int .i64 b] w fun e w' => e = .returned (.int .i64 (ord a b)) ∧ w = w' :=
  (Tryz.cmp_Compare_int a b w).mono fun e w' ⟨h1, h2⟩ => ⟨by rw [h1]; rfl, h2.symm⟩
theorem cmpS_any (a b : ByteArray) (w : World) : Calls Tryz.prog 76 #[.string a, .string b] w fun e w' => e = .returned (.int .i64 (words a.toList b.toList)) ∧ w = w' := by
  have hn : ∀ (x : ByteArray) (w : World), Calls Tryz.prog 97 #[.string x] w fun e w' => e = .returned (.bool false) ∧ w = w' := fun x w => by
    go_enter Tryz.func97, Tryz.ntmps97
    go_wp2
    go_ret
    exact ⟨by simp, rfl⟩
  have HN := Lib.hid hn
  clear hn
  have hz := Lib.hid (words_cases a.toList b.toList)
  obtain ⟨z, hzz⟩ : ∃ z, words a.toList b.toList = z := ⟨_, rfl⟩
  rw [hzz] at hz ⊢
  clear hzz
  rcases str_ways a b with ⟨hw, f1, f2, f3, f4⟩ | rfl | ⟨hw, f1, f2, f3, f4⟩
  · have hr : Hid (z = -1) := Lib.hid (by
      rcases hz.out with ⟨_, h⟩ | ⟨h, _⟩ | ⟨h, _⟩
      · exact h
      · rw [h] at hw; exact absurd hw (List.lt_irrefl _)
      · exact absurd (List.lt_trans h hw) (List.lt_irrefl _))
    clear hz hw
    go_enter Tryz.func76, Tryz.ntmps76
    go_wp2_with (go_at_call 97; (with_reducible refine (HN.out _ _).mono ?_); rintro e w' ⟨rfl, rfl⟩)
    go_ret
    exact ⟨by rw [hr.out]; rfl, rfl⟩
  · have hr : Hid (z = 0) := Lib.hid (by
      rcases hz.out with ⟨h, _⟩ | ⟨_, h⟩ | ⟨h, _⟩
      · exact absurd h (List.lt_irrefl _)
      · exact h
      · exact absurd h (List.lt_irrefl _))
    have f1 := less_self a.toList
    clear hz
    go_enter Tryz.func76, Tryz.ntmps76
    go_wp2_with (go_at_call 97; (with_reducible refine (HN.out _ _).mono ?_); rintro e w' ⟨rfl, rfl⟩)
    go_ret
    exact ⟨by rw [hr.out]; rfl, rfl⟩
  · have hr : Hid (z = 1) := Lib.hid (by
      rcases hz.out with ⟨h, _⟩ | ⟨h, _⟩ | ⟨_, h⟩
      · exact absurd (List.lt_trans h hw) (List.lt_irrefl _)
      · rw [h] at hw; exact absurd hw (List.lt_irrefl _)
      · exact h)
    clear hz hw
    go_enter Tryz.func76, Tryz.ntmps76
    go_wp2_with (go_at_call 97; (with_reducible refine (HN.out _ _).mono ?_); rintro e w' ⟨rfl, rfl⟩)
    go_ret
    exact ⟨by rw [hr.out]; rfl, rfl⟩
/-- The first of three numbers that is not 0. -/
theorem or3_any (a b d : Int) (g : Nat) (w : World) (h0 : w.cell? ⟨g, 0, none⟩ = some (.int .i64 a)) (h1 : w.cell? ⟨g, 1, none⟩ = some (.int .i64 b)) (h2 : w.cell? ⟨g, 2, none⟩ = some (.int .i64 d)) :
    Calls Tryz.prog 73 #[.slice (some ⟨g, 0, none⟩) 3 3] w fun e w' => e = .returned (.int .i64 (andThen a (andThen b d))) ∧ w = w' := by
  obtain ⟨z, hz⟩ : ∃ z, andThen a (andThen b d) = z := ⟨_, rfl⟩
  rw [hz]
  have HZ := Lib.hid hz
  clear hz
  go_enter Tryz.func73, Tryz.ntmps73
  go_wp2
  go_loop [8] (fun i => ∃ k : Nat, i = .int .i64 (k : Int) ∧ k ≤ 3 ∧ Hid (([a, b, d].drop k).foldr andThen 0 = z)) (fun i => 3 - (intOf i).toNat)
  case atStart => exact ⟨0, rfl, by omega, Lib.hid (by rw [← HZ.out]; show andThen a (andThen b (andThen d 0)) = _; rw [at_c0])⟩
  case round =>
    obtain ⟨k, rfl, hk, hr⟩ := hrel
    by_cases hlt : k < 3
    · obtain ⟨x, hx, hst⟩ : ∃ x, w.cell? ⟨g, k, none⟩ = some (.int .i64 x) ∧ ([a, b, d].drop k).foldr andThen 0 = andThen x (([a, b, d].drop (k + 1)).foldr andThen 0) := by
        have : k = 0 ∨ k = 1 ∨ k = 2 := by omega
        rcases this with rfl | rfl | rfl
        · exact ⟨a, h0, rfl⟩
        · exact ⟨b, h1, rfl⟩
        · exact ⟨d, h2, rfl⟩
      have Hst := Lib.hid (hr.out.symm.trans hst)
      clear hr hst h0 h1 h2
      by_cases hx0 : x = 0
      · have hz : Hid (([a, b, d].drop (k + 1)).foldr andThen 0 = z) := Lib.hid (by rw [Hst.out, hx0]; rfl)
        have hxb : (x != 0) = false := by simpa using hx0
        clear Hst
        go_wp2
        go_round
        case rel => exact ⟨k + 1, by go_num, by omega, hz⟩
        case measure => simp [intOf]; omega
      · have hz : Hid (z = x) := Lib.hid (by rw [Hst.out, at_n hx0])
        have hxb : (x != 0) = true := by simpa using hx0
        clear Hst
        go_wp2
        go_ret
        exact ⟨by rw [hz.out]; rfl, rfl⟩
    · obtain rfl : k = 3 := by omega
      have hz : Hid (z = 0) := Lib.hid (by rw [← hr.out]; rfl)
      clear hr
      go_wp2
      go_ret
      exact ⟨by rw [hz.out]; rfl, rfl⟩
end Val
end Go.Proofs.YtonlcjackbhnmaaGreatDoor
