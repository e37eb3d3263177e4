/-
  Layer 6, texts merged: the reference's order and small readers. For every argument within the bounds that each theorem names.
-/
import Derived.Test.YtonlcjackbhnmaaGreatDoorME
import Derived.Test.YtonlcjackbhnmaaGreatDoorMA
import Derived.Laws.Cover1

/-
  Layer 6, the reference: order, words; compare of values of different kinds and of scalars.
-/
namespace Go.Proofs.YtonlcjackbhnmaaGreatDoor
open Go.RowKit Go.ChangeShapes Go.WideShapes
namespace Val

theorem order_any (a b : Int) (w : World) :
    Calls Tryz.prog 77 #[.int .i64 a, .int .i64 b] w fun e w' => e = .returned (.int .i64 (ord a b)) ∧ w = w' := by
  by_cases h : a < b
  · have hz := Lib.hid (show ord a b = -1 from if_pos h)
    go_enter Tryz.func77, Tryz.ntmps77
    go_wp2
    go_ret
    exact ⟨by rw [hz.out]; rfl, rfl⟩
  · by_cases h2 : b < a
    · have hz := Lib.hid (show ord a b = 1 by unfold ord; rw [if_neg h, if_pos h2])
      go_enter Tryz.func77, Tryz.ntmps77
      go_wp2
      go_ret
      exact ⟨by rw [hz.out]; rfl, rfl⟩
    · have hz := Lib.hid (show ord a b = 0 by unfold ord; rw [if_neg h, if_neg h2])
      go_enter Tryz.func77, Tryz.ntmps77
      go_wp2
      go_ret
      exact ⟨by rw [hz.out]; rfl, rfl⟩
theorem words_any (a b : ByteArray) (w : World) :
    Calls Tryz.prog 78 #[.string a, .string b] w fun e w' => e = .returned (.int .i64 (words a.toList b.toList)) ∧ w = w' := by
  have hz := Lib.hid (words_cases a.toList b.toList)
  obtain ⟨z, hzz⟩ : ∃ z, words a.toList b.toList = z := ⟨_, rfl⟩
  rw [hzz] at hz ⊢
  clear hzz
  rcases str_ways a b with ⟨hw, f1, f2, f3, f4⟩ | rfl | ⟨hw, f1, f2, f3, f4⟩
  · have hr : Hid (z = -1) := Lib.hid (by
      rcases hz.out with ⟨_, h⟩ | ⟨h, _⟩ | ⟨h, _⟩
      · exact h
      · rw [h] at hw; exact absurd hw (List.lt_irrefl _)
      · exact absurd (List.lt_trans h hw) (List.lt_irrefl _))
    clear hz hw
    go_enter Tryz.func78, Tryz.ntmps78
    go_wp2
    go_ret
    exact ⟨by rw [hr.out]; rfl, rfl⟩
  · have hr : Hid (z = 0) := Lib.hid (by
      rcases hz.out with ⟨h, _⟩ | ⟨_, h⟩ | ⟨h, _⟩
      · exact absurd h (List.lt_irrefl _)
      · exact h
      · exact absurd h (List.lt_irrefl _))
    have f1 := less_self a.toList
    clear hz
    go_enter Tryz.func78, Tryz.ntmps78
    go_wp2
    go_ret
    exact ⟨by rw [hr.out]; rfl, rfl⟩
  · have hr : Hid (z = 1) := Lib.hid (by
      rcases hz.out with ⟨h, _⟩ | ⟨h, _⟩ | ⟨_, h⟩
      · exact absurd (List.lt_trans h hw) (List.lt_irrefl _)
      · rw [h] at hw; exact absurd hw (List.lt_irrefl _)
      · exact h)
    clear hz hw
    go_enter Tryz.func78, Tryz.ntmps78
    go_wp2
    go_ret
    exact ⟨by rw [hr.out]; rfl, rfl⟩
/-- The first cell of a value. -/
def hdC : V → Cel
  | .null => ⟨1, 0, [], 0⟩
  | .bool b => ⟨2, b2i b, [], 0⟩
  | .int n => ⟨3, n, [], 0⟩
  | .str s => ⟨4, 0, s, 0⟩
  | .list l => ⟨5, 0, [], (lenL l : Int)⟩
  | .map m => ⟨6, 0, [], (lenM m : Int)⟩
def tlC : V → List Cel
  | .list l => flatL l
  | .map m => flatM m
  | _ => []
theorem flat_hd (t : V) : flat t = hdC t :: tlC t := by cases t <;> rfl
theorem hd_kind (t : V) : (hdC t).k = kind t := by cases t <;> rfl
def CmpI (la lb : List Cel) (s t : V) : Prop := ∀ (o1 : Option Addr) (n1 c1 i : Nat) (r1 : List Cel) (o2 : Option Addr) (n2 c2 k : Nat) (r2 : List Cel), la.drop i = flat s ++ r1 → lb.drop k = flat t ++ r2 → wf s = true → wf t = true → n1 ≤ 1000000 → n2 ≤ 1000000 → ∀ w : World, CArg w o1 n1 la → CArg w o2 n2 lb →
  Calls Tryz.prog 46 #[.slice o1 n1 c1, .int .i64 (i : Int), .slice o2 n2 c2, .int .i64 (k : Int)] w fun e w' => e = .returned (.int .i64 (cmp s t)) ∧ Bel w w'
theorem cmp_kinds {s t : V} (h : kind s ≠ kind t) : cmp s t = ord (kind s) (kind t) := by
  cases s <;> cases t <;> first | rfl | exact absurd rfl h
/-- Where the first cells stand. -/
theorem cmp_heads {la lb r1 r2 : List Cel} {s t : V} {i k n1 n2 : Nat} {o1 o2 : Option Addr} {w : World} (h1 : la.drop i = flat s ++ r1) (h2 : lb.drop k = flat t ++ r2) (hA : CArg w o1 n1 la) (hB : CArg w o2 n2 lb) :
    i < n1 ∧ k < n2 ∧ ∃ b1 f1 b2 f2, o1 = some ⟨b1, f1, none⟩ ∧ o2 = some ⟨b2, f2, none⟩ ∧ CAt w b1 (f1 + i * 4) (hdC s) ∧ CAt w b2 (f2 + k * 4) (hdC t) ∧ la.drop (i + 1) = tlC s ++ r1 ∧ lb.drop (k + 1) = tlC t ++ r2 := by
  rw [flat_hd, List.cons_append] at h1 h2
  obtain ⟨hi, hc, hd⟩ := cell_of h1
  obtain ⟨hk, hc2, hd2⟩ := cell_of h2
  have e1 := hA.1
  have e2 := hB.1
  obtain ⟨b1, f1, rfl, g1⟩ := hA.2.2 (by omega)
  obtain ⟨b2, f2, rfl, g2⟩ := hB.2.2 (by omega)
  refine ⟨by omega, by omega, b1, f1, b2, f2, rfl, rfl, ?_, ?_, hd, hd2⟩
  · rw [← hc]; exact g1 i hi
  · rw [← hc2]; exact g2 k hk
set_option maxRecDepth 100000 in
set_option maxHeartbeats 2000000 in
theorem cmp_differ (la lb : List Cel) (s t : V) (hne : kind s ≠ kind t) : CmpI la lb s t := by
  intro o1 n1 c1 i r1 o2 n2 c2 k r2 h1 h2 _ _ hn1 hn2 w hA hB
  obtain ⟨hi, hk, b1, f1, b2, f2, rfl, rfl, g1, g2, _, _⟩ := cmp_heads h1 h2 hA hB
  rw [cmp_kinds hne]
  obtain ⟨x1, x2, x3, x4⟩ := g1
  obtain ⟨y1, y2, y3, y4⟩ := g2
  rw [hd_kind] at x1 y1
  generalize kind s = K1 at *
  generalize kind t = K2 at *
  generalize hdC s = a at *
  generalize hdC t = b at *
  obtain ⟨ak, ai, av, an⟩ := a
  obtain ⟨bk, bi, bv, bn⟩ := b
  simp only at x2 x3 x4 y2 y3 y4
  have G := (Bel.refl w).alloc (.cells #[.int .i64 K1, .int .i64 ai, .string ⟨av.toArray⟩, .int .i64 an] 44)
  have z1 := G.cell' y1
  have z2 := G.cell' y2
  have z3 := G.cell' y3
  have z4 := G.cell' y4
  have GG := Lib.hid (G.alloc (.cells #[.int .i64 K2, .int .i64 bi, .string ⟨bv.toArray⟩, .int .i64 bn] 44))
  clear h1 h2 hA hB y1 y2 y3 y4 G
  go_enter Tryz.func46, Tryz.ntmps46
  go_wp2_with (go_at_call 77; ((with_reducible refine (order_any K1 K2 _).mono ?_); rintro e w' ⟨rfl, rfl⟩))
  go_ret
  exact ⟨rfl, GG.out⟩
set_option maxRecDepth 100000 in
set_option maxHeartbeats 2000000 in
theorem cmp_bool (la lb : List Cel) (a b : Bool) : CmpI la lb (.bool a) (.bool b) := by
  intro o1 n1 c1 i r1 o2 n2 c2 k r2 h1 h2 _ _ hn1 hn2 w hA hB
  obtain ⟨hi, hk, b1, f1, b2, f2, rfl, rfl, g1, g2, _, _⟩ := cmp_heads h1 h2 hA hB
  obtain ⟨x1, x2, x3, x4⟩ := g1
  obtain ⟨y1, y2, y3, y4⟩ := g2
  simp only [hdC] at x1 x2 x3 x4 y1 y2 y3 y4
  rw [show cmp (.bool a) (.bool b) = ord (b2i a) (b2i b) from rfl]
  generalize b2i a = u at *
  generalize b2i b = v at *
  have G := (Bel.refl w).alloc (.cells #[.int .i64 2, .int .i64 u, .string ⟨#[]⟩, .int .i64 0] 44)
  have z1 := G.cell' y1
  have z2 := G.cell' y2
  have z3 := G.cell' y3
  have z4 := G.cell' y4
  have GG := Lib.hid (G.alloc (.cells #[.int .i64 2, .int .i64 v, .string ⟨#[]⟩, .int .i64 0] 44))
  clear h1 h2 hA hB y1 y2 y3 y4 G
  go_enter Tryz.func46, Tryz.ntmps46
  go_wp2_with (go_at_call 77; ((with_reducible refine (order_any u v _).mono ?_); rintro e w' ⟨rfl, rfl⟩))
  go_ret
  exact ⟨rfl, GG.out⟩
set_option maxRecDepth 100000 in
set_option maxHeartbeats 2000000 in
theorem cmp_int (la lb : List Cel) (a b : Int) : CmpI la lb (.int a) (.int b) := by
  intro o1 n1 c1 i r1 o2 n2 c2 k r2 h1 h2 _ _ hn1 hn2 w hA hB
  obtain ⟨hi, hk, b1, f1, b2, f2, rfl, rfl, g1, g2, _, _⟩ := cmp_heads h1 h2 hA hB
  obtain ⟨x1, x2, x3, x4⟩ := g1
  obtain ⟨y1, y2, y3, y4⟩ := g2
  simp only [hdC] at x1 x2 x3 x4 y1 y2 y3 y4
  rw [show cmp (.int a) (.int b) = ord (a) (b) from rfl]
  generalize a = u at *
  generalize b = v at *
  have G := (Bel.refl w).alloc (.cells #[.int .i64 3, .int .i64 u, .string ⟨#[]⟩, .int .i64 0] 44)
  have z1 := G.cell' y1
  have z2 := G.cell' y2
  have z3 := G.cell' y3
  have z4 := G.cell' y4
  have GG := Lib.hid (G.alloc (.cells #[.int .i64 3, .int .i64 v, .string ⟨#[]⟩, .int .i64 0] 44))
  clear h1 h2 hA hB y1 y2 y3 y4 G
  go_enter Tryz.func46, Tryz.ntmps46
  go_wp2_with (go_at_call 77; ((with_reducible refine (order_any u v _).mono ?_); rintro e w' ⟨rfl, rfl⟩))
  go_ret
  exact ⟨rfl, GG.out⟩
set_option maxRecDepth 100000 in
set_option maxHeartbeats 2000000 in
theorem cmp_str (la lb : List Cel) (a b : Txt) : CmpI la lb (.str a) (.str b) := by
  intro o1 n1 c1 i r1 o2 n2 c2 k r2 h1 h2 _ _ hn1 hn2 w hA hB
  obtain ⟨hi, hk, b1, f1, b2, f2, rfl, rfl, g1, g2, _, _⟩ := cmp_heads h1 h2 hA hB
  obtain ⟨x1, x2, x3, x4⟩ := g1
  obtain ⟨y1, y2, y3, y4⟩ := g2
  simp only [hdC] at x1 x2 x3 x4 y1 y2 y3 y4
  obtain ⟨X, hX⟩ : ∃ X : ByteArray, ⟨a.toArray⟩ = X := ⟨_, rfl⟩
  obtain ⟨Y, hY⟩ : ∃ Y : ByteArray, ⟨b.toArray⟩ = Y := ⟨_, rfl⟩
  have hz := Lib.hid (show words X.toList Y.toList = cmp (.str a) (.str b) by rw [← hX, ← hY, tl a, tl b]; rfl)
  rw [hX] at x3
  rw [hY] at y3
  generalize cmp (.str a) (.str b) = R at *
  have G := (Bel.refl w).alloc (.cells #[.int .i64 4, .int .i64 0, .string X, .int .i64 0] 44)
  have z1 := G.cell' y1
  have z2 := G.cell' y2
  have z3 := G.cell' y3
  have z4 := G.cell' y4
  have GG := Lib.hid (G.alloc (.cells #[.int .i64 4, .int .i64 0, .string Y, .int .i64 0] 44))
  clear h1 h2 hA hB y1 y2 y3 y4 G hX hY
  go_enter Tryz.func46, Tryz.ntmps46
  go_wp2_with (go_at_call 78; ((with_reducible refine (words_any X Y _).mono ?_); rintro e w' ⟨rfl, rfl⟩))
  go_ret
  exact ⟨by rw [← hz.out]; rfl, GG.out⟩
end Val
end Go.Proofs.YtonlcjackbhnmaaGreatDoor

/-
  Layer 6, the reference: compare of lists, maps and null; Cmp.
-/
namespace Go.Proofs.YtonlcjackbhnmaaGreatDoor
open Go.RowKit Go.ChangeShapes Go.WideShapes
namespace Val

theorem ordn_lt {a b : Nat} (h : a < b) : ord (a : Int) (b : Int) = -1 := if_pos (by omega)
theorem ordn_gt {a b : Nat} (h : b < a) : ord (a : Int) (b : Int) = 1 := by unfold ord; rw [if_neg (by omega), if_pos (by omega)]
theorem ordn_eq (a : Int) : ord a a = 0 := by unfold ord; rw [if_neg (by omega), if_neg (by omega)]
set_option maxRecDepth 100000 in
set_option maxHeartbeats 8000000 in
theorem cmp_list (la lb : List Cel) (x y : L) (hx : allL (fun s => ∀ t, CmpI la lb s t) x) : CmpI la lb (.list x) (.list y) := by
  intro o1 n1 c1 i r1 o2 n2 c2 k r2 h1 h2 hw1 hw2 hn1 hn2 w hA hB
  obtain ⟨hi, hk, b1, f1, b2, f2, rfl, rfl, g1, g2, hd1, hd2⟩ := cmp_heads h1 h2 hA hB
  obtain ⟨x1, x2, x3, x4⟩ := g1
  obtain ⟨y1, y2, y3, y4⟩ := g2
  simp only [hdC] at x1 x2 x3 x4 y1 y2 y3 y4
  rw [tlC] at hd1 hd2
  have hl1 := hA.1
  have hl2 := hB.1
  have hN1 : lenL x ≤ n1 := by
    have e1 := lenL_le x
    have e2 := congrArg List.length hd1
    rw [List.length_drop, List.length_append] at e2
    omega
  have hN2 : lenL y ≤ n2 := by
    have e1 := lenL_le y
    have e2 := congrArg List.length hd2
    rw [List.length_drop, List.length_append] at e2
    omega
  rw [wf] at hw1 hw2
  obtain ⟨N1, hNx⟩ : ∃ N, lenL x = N := ⟨_, rfl⟩
  obtain ⟨N2, hNy⟩ : ∃ N, lenL y = N := ⟨_, rfl⟩
  rw [hNx] at x4 hN1
  rw [hNy] at y4 hN2
  obtain ⟨R, hR⟩ : ∃ R, cmpL x y = R := ⟨_, rfl⟩
  rw [show cmp (.list x) (.list y) = cmpL x y from rfl, hR]
  have G := (Bel.refl w).alloc (.cells #[.int .i64 5, .int .i64 0, .string ⟨#[]⟩, .int .i64 (N1 : Int)] 44)
  have z1 := G.cell' y1
  have z2 := G.cell' y2
  have z3 := G.cell' y3
  have z4 := G.cell' y4
  have GG := Lib.hid (G.alloc (.cells #[.int .i64 5, .int .i64 0, .string ⟨#[]⟩, .int .i64 (N2 : Int)] 44))
  have HA := Lib.hid hA
  have HB := Lib.hid hB
  have HX := Lib.hid hx
  have HNx := Lib.hid hNx
  have HNy := Lib.hid hNy
  have HR := Lib.hid hR
  have HD1 := Lib.hid hd1
  have HD2 := Lib.hid hd2
  have HW1 := Lib.hid (show wfLX x from hw1)
  have HW2 := Lib.hid (show wfLX y from hw2)
  clear h1 h2 hA hB y1 y2 y3 y4 G hx hNx hNy hR hd1 hd2 hw1 hw2
  go_enter Tryz.func46, Tryz.ntmps46
  go_wp2_with fail
  go_loopw [1, 3, 11] (fun i' k' m' wr => ∃ (p q : L) (j l m : Nat), i' = .int .i64 (j : Int) ∧ k' = .int .i64 (l : Int) ∧ m' = .int .i64 (m : Int) ∧ m ≤ N1 ∧ m ≤ N2 ∧ j ≤ n1 ∧ l ≤ n2 ∧ Hid (m + lenL p = N1) ∧ Hid (m + lenL q = N2) ∧ Hid (allL (fun s => ∀ t, CmpI la lb s t) p) ∧ Hid (wfLX p) ∧ Hid (wfLX q) ∧ Hid (la.drop j = flatL p ++ r1) ∧ Hid (lb.drop l = flatL q ++ r2) ∧ Hid (cmpL p q = R) ∧ Hid (Bel ((w.alloc (.cells #[.int .i64 5, .int .i64 0, .string ⟨#[]⟩, .int .i64 (N1 : Int)] 44)).alloc (.cells #[.int .i64 5, .int .i64 0, .string ⟨#[]⟩, .int .i64 (N2 : Int)] 44)) wr)) (fun _ _ m' _ => N1 - (intOf m').toNat)
  case atStart => exact ⟨x, y, i + 1, k + 1, 0, by go_num, by go_num, rfl, Nat.zero_le _, Nat.zero_le _, by omega, by omega, Lib.hid (by rw [HNx.out]; omega), Lib.hid (by rw [HNy.out]; omega), HX, HW1, HW2, HD1, HD2, HR, Lib.hid (Bel.refl _)⟩
  case round =>
    obtain ⟨p, q, j, l, m, rfl, rfl, rfl, hm1, hm2, hj, hl, hp1, hp2, hX, hwp, hwq, hdp, hdq, hr, hb⟩ := hrel
    rename World => W0
    clear HX HNx HNy HR HD1 HD2 HW1 HW2
    have B0 := (Bel.refl (w.alloc (.cells #[.int .i64 5, .int .i64 0, .string ⟨#[]⟩, .int .i64 (N1 : Int)] 44))).alloc (.cells #[.int .i64 5, .int .i64 0, .string ⟨#[]⟩, .int .i64 (N2 : Int)] 44)
    have a1 := hb.out.cell' (B0.cell' (World.cell?_alloc_new w #[.int .i64 5, .int .i64 0, .string ⟨#[]⟩, .int .i64 (N1 : Int)] 44 0))
    have a4 := hb.out.cell' (B0.cell' (World.cell?_alloc_new w #[.int .i64 5, .int .i64 0, .string ⟨#[]⟩, .int .i64 (N1 : Int)] 44 3))
    have d4 : W0.cell? ⟨w.heap.size + 1, 3, none⟩ = some (.int .i64 (N2 : Int)) := by
      have h := hb.out.cell' (World.cell?_alloc_new (w.alloc (.cells #[.int .i64 5, .int .i64 0, .string ⟨#[]⟩, .int .i64 (N1 : Int)] 44)) #[.int .i64 5, .int .i64 0, .string ⟨#[]⟩, .int .i64 (N2 : Int)] 44 3)
      rw [show (w.alloc (.cells #[.int .i64 5, .int .i64 0, .string ⟨#[]⟩, .int .i64 (N1 : Int)] 44)).heap.size = w.heap.size + 1 by simp] at h
      exact h
    have hW := Below.trans GG.out (Below.mono hb.out (Nat.le_trans (Nat.le_of_lt (alloc_lt w _)) (Nat.le_of_lt (alloc_lt _ _))))
    have HWW := Lib.hid hW
    clear B0 hW
    have hend : Hid (m = N1 ∨ m = N2 → ord (N1 : Int) (N2 : Int) = R) := Lib.hid (by
      intro h
      have e1 := hp1.out
      have e2 := hp2.out
      have e3 := hr.out
      cases p with
      | nil =>
        cases q with
        | nil =>
          simp only [lenL] at e1 e2
          rw [← e3, cmpL, show N1 = N2 by omega]
          exact ordn_eq _
        | cons v q =>
          simp only [lenL] at e1 e2
          rw [← e3, cmpL]
          exact ordn_lt (by omega)
      | cons u p =>
        cases q with
        | nil =>
          simp only [lenL] at e1 e2
          rw [← e3, cmpL]
          exact ordn_gt (by omega)
        | cons v q =>
          simp only [lenL] at e1 e2
          omega)
    by_cases hlt : m < N1
    · by_cases hlt2 : m < N2
      · clear hend
        cases p with
        | nil =>
          have e1 := hp1.out
          rw [lenL] at e1
          omega
        | cons u p =>
          cases q with
          | nil =>
            have e2 := hp2.out
            rw [lenL] at e2
            omega
          | cons v q =>
            have g1 := hdp.out
            have g2 := hdq.out
            have wp := hwp.out
            have wq := hwq.out
            rw [flatL, List.append_assoc] at g1 g2
            unfold wfLX at wp wq
            rw [wfL, Bool.and_eq_true] at wp wq
            have hwp2 : Hid (wfLX p) := Lib.hid wp.2
            have hwq2 : Hid (wfLX q) := Lib.hid wq.2
            have wu := wp.1
            have wv := wq.1
            obtain ⟨f, hf⟩ : ∃ f, j = f := ⟨_, rfl⟩
            obtain ⟨g, hg⟩ : ∃ g, l = g := ⟨_, rfl⟩
            rw [hf] at g1
            rw [hg] at g2
            obtain ⟨e1, e2, e3⟩ := nx_flat g1 wu
            obtain ⟨e4, e5, e6⟩ := nx_flat g2 wv
            have hu := flat_pos u
            have hv := flat_pos v
            have NA := next_all la la.length (some ⟨b1, f1, none⟩) n1 c1 f (by omega) (by omega) hn1
            have NB := next_all lb lb.length (some ⟨b2, f2, none⟩) n2 c2 g (by omega) (by omega) hn2
            rw [e1] at NA
            rw [e4] at NB
            obtain ⟨J, hJ⟩ : ∃ J, f + (flat u).length = J := ⟨_, rfl⟩
            obtain ⟨M, hM⟩ : ∃ M, g + (flat v).length = M := ⟨_, rfl⟩
            rw [hJ] at NA e2 e3
            rw [hM] at NB e5 e6
            have hC := hX.out.1 v (some ⟨b1, f1, none⟩) n1 c1 f _ (some ⟨b2, f2, none⟩) n2 c2 g _ g1 g2 wu wv hn1 hn2
            have hX2 := Lib.hid hX.out.2
            have hr0 := hr.out
            rw [cmpL] at hr0
            obtain ⟨c, hc⟩ : ∃ c, cmp u v = c := ⟨_, rfl⟩
            rw [hc] at hC hr0
            have HC := Lib.hid hC
            have HNA := Lib.hid NA
            have HNB := Lib.hid NB
            have hp3 : Hid (m + 1 + lenL p = N1) := Lib.hid (by have := hp1.out; rw [lenL] at this; omega)
            have hq3 : Hid (m + 1 + lenL q = N2) := Lib.hid (by have := hp2.out; rw [lenL] at this; omega)
            have hd3 := Lib.hid e2
            have hd4 := Lib.hid e5
            have hJ2 : J ≤ n1 := by omega
            have hM2 : M ≤ n2 := by omega
            have hjn : j < n1 := by omega
            have hln : l < n2 := by omega
            unfold andThen at hr0
            subst hf hg
            clear hp1 hp2 hX hwp hwq hdp hdq g1 g2 wp wq wu wv e1 e2 e3 e4 e5 e6 hu hv NA NB hJ hM hC hr hc
            by_cases hc0 : c = 0
            · rw [if_pos hc0] at hr0
              have hr2 := Lib.hid hr0
              subst hc0
              clear hr0
              go_wp2_with fail
              refine (HC.out W0 (HA.out.on HWW.out) (HB.out.on HWW.out)).mono ?_
              rintro e w3 ⟨rfl, s3⟩
              have T3 := Lib.hid (Bel.trans HWW.out s3)
              have b3 := Lib.hid (Bel.trans hb.out s3)
              clear s3
              go_wp2_with fail
              refine (HNA.out w3 (HA.out.on T3.out)).mono ?_
              rintro e w4 ⟨rfl, s4⟩
              have T4 := Lib.hid (Bel.trans T3.out s4)
              have b4 := Lib.hid (Bel.trans b3.out s4)
              clear s4 T3
              go_wp2_with fail
              refine (HNB.out w4 (HB.out.on T4.out)).mono ?_
              rintro e w5 ⟨rfl, s5⟩
              have b5 := Lib.hid (Bel.trans b4.out s5)
              clear s5 T4 b3 b4
              go_wp2_with fail
              go_round
              case rel => exact ⟨p, q, J, M, m + 1, rfl, rfl, by go_num, by omega, by omega, hJ2, hM2, hp3, hq3, hX2, hwp2, hwq2, hd3, hd4, hr2, b5⟩
              case measure => simp [intOf]; omega
            · rw [if_neg hc0] at hr0
              have hr2 := Lib.hid hr0
              clear hr0
              go_wp2_with fail
              refine (HC.out W0 (HA.out.on HWW.out) (HB.out.on HWW.out)).mono ?_
              rintro e w3 ⟨rfl, s3⟩
              have T3 := Lib.hid (Bel.trans HWW.out s3)
              clear s3
              go_wp2_with fail
              go_ret
              exact ⟨by rw [← hr2.out]; rfl, T3.out⟩
      · have he := Lib.hid (hend.out (.inr (by omega)))
        clear hend
        go_wp2_with (go_at_call 77; ((with_reducible refine (order_any (N1 : Int) (N2 : Int) _).mono ?_); rintro e w' ⟨rfl, rfl⟩))
        go_ret
        exact ⟨by rw [← he.out]; rfl, HWW.out⟩
    · have he := Lib.hid (hend.out (.inl (by omega)))
      clear hend
      go_wp2_with (go_at_call 77; ((with_reducible refine (order_any (N1 : Int) (N2 : Int) _).mono ?_); rintro e w' ⟨rfl, rfl⟩))
      go_ret
      exact ⟨by rw [← he.out]; rfl, HWW.out⟩
end Val
end Go.Proofs.YtonlcjackbhnmaaGreatDoor

/-
  Layer 6, the reference: compare of lists, maps and null; Cmp.
-/
namespace Go.Proofs.YtonlcjackbhnmaaGreatDoor
open Go.RowKit Go.ChangeShapes Go.WideShapes
namespace Val

set_option maxRecDepth 100000 in
set_option maxHeartbeats 2000000 in
theorem cmp_null (la lb : List Cel) : CmpI la lb .null .null := by
  intro o1 n1 c1 i r1 o2 n2 c2 k r2 h1 h2 _ _ hn1 hn2 w hA hB
  obtain ⟨hi, hk, b1, f1, b2, f2, rfl, rfl, g1, g2, _, _⟩ := cmp_heads h1 h2 hA hB
  obtain ⟨x1, x2, x3, x4⟩ := g1
  obtain ⟨y1, y2, y3, y4⟩ := g2
  simp only [hdC] at x1 x2 x3 x4 y1 y2 y3 y4
  have G := (Bel.refl w).alloc (.cells #[.int .i64 1, .int .i64 0, .string ⟨#[]⟩, .int .i64 0] 44)
  have z1 := G.cell' y1
  have z2 := G.cell' y2
  have z3 := G.cell' y3
  have z4 := G.cell' y4
  have GG := Lib.hid (G.alloc (.cells #[.int .i64 1, .int .i64 0, .string ⟨#[]⟩, .int .i64 0] 44))
  clear h1 h2 hA hB y1 y2 y3 y4 G
  go_enter Tryz.func46, Tryz.ntmps46
  go_wp2_with fail
  go_loopw [11] (fun m' wr => m' = .int .i64 0 ∧ wr = (w.alloc (.cells #[.int .i64 1, .int .i64 0, .string ⟨#[]⟩, .int .i64 0] 44)).alloc (.cells #[.int .i64 1, .int .i64 0, .string ⟨#[]⟩, .int .i64 0] 44)) (fun _ _ => 0)
  case atStart => exact ⟨rfl, rfl⟩
  case round =>
    obtain ⟨rfl, rfl⟩ := hrel
    go_wp2_with (go_at_call 77; ((with_reducible refine (order_any 0 0 _).mono ?_); rintro e w' ⟨rfl, rfl⟩))
    go_ret
    exact ⟨rfl, GG.out⟩
set_option maxRecDepth 100000 in
set_option maxHeartbeats 8000000 in
theorem cmp_map (la lb : List Cel) (x y : M) (hx : allM (fun s => ∀ t, CmpI la lb s t) x) : CmpI la lb (.map x) (.map y) := by
  intro o1 n1 c1 i r1 o2 n2 c2 k r2 h1 h2 hw1 hw2 hn1 hn2 w hA hB
  obtain ⟨hi, hk, b1, f1, b2, f2, rfl, rfl, g1, g2, hd1, hd2⟩ := cmp_heads h1 h2 hA hB
  obtain ⟨x1, x2, x3, x4⟩ := g1
  obtain ⟨y1, y2, y3, y4⟩ := g2
  simp only [hdC] at x1 x2 x3 x4 y1 y2 y3 y4
  rw [tlC] at hd1 hd2
  have hl1 := hA.1
  have hl2 := hB.1
  have hN1 : lenM x ≤ n1 := by
    have e1 := lenM_le x
    have e2 := congrArg List.length hd1
    rw [List.length_drop, List.length_append] at e2
    omega
  have hN2 : lenM y ≤ n2 := by
    have e1 := lenM_le y
    have e2 := congrArg List.length hd2
    rw [List.length_drop, List.length_append] at e2
    omega
  rw [wf] at hw1 hw2
  obtain ⟨N1, hNx⟩ : ∃ N, lenM x = N := ⟨_, rfl⟩
  obtain ⟨N2, hNy⟩ : ∃ N, lenM y = N := ⟨_, rfl⟩
  rw [hNx] at x4 hN1
  rw [hNy] at y4 hN2
  obtain ⟨R, hR⟩ : ∃ R, cmpM x y = R := ⟨_, rfl⟩
  rw [show cmp (.map x) (.map y) = cmpM x y from rfl, hR]
  have G := (Bel.refl w).alloc (.cells #[.int .i64 6, .int .i64 0, .string ⟨#[]⟩, .int .i64 (N1 : Int)] 44)
  have z1 := G.cell' y1
  have z2 := G.cell' y2
  have z3 := G.cell' y3
  have z4 := G.cell' y4
  have GG := Lib.hid (G.alloc (.cells #[.int .i64 6, .int .i64 0, .string ⟨#[]⟩, .int .i64 (N2 : Int)] 44))
  have HA := Lib.hid hA
  have HB := Lib.hid hB
  have HX := Lib.hid hx
  have HNx := Lib.hid hNx
  have HNy := Lib.hid hNy
  have HR := Lib.hid hR
  have HD1 := Lib.hid hd1
  have HD2 := Lib.hid hd2
  have HW1 := Lib.hid (show wfMX x from ⟨none, hw1⟩)
  have HW2 := Lib.hid (show wfMX y from ⟨none, hw2⟩)
  clear h1 h2 hA hB y1 y2 y3 y4 G hx hNx hNy hR hd1 hd2 hw1 hw2
  go_enter Tryz.func46, Tryz.ntmps46
  go_wp2_with fail
  go_loopw [1, 3, 11] (fun i' k' m' wr => ∃ (p q : M) (j l m : Nat), i' = .int .i64 (j : Int) ∧ k' = .int .i64 (l : Int) ∧ m' = .int .i64 (m : Int) ∧ m ≤ N1 ∧ m ≤ N2 ∧ j ≤ n1 ∧ l ≤ n2 ∧ Hid (m + lenM p = N1) ∧ Hid (m + lenM q = N2) ∧ Hid (allM (fun s => ∀ t, CmpI la lb s t) p) ∧ Hid (wfMX p) ∧ Hid (wfMX q) ∧ Hid (la.drop j = flatM p ++ r1) ∧ Hid (lb.drop l = flatM q ++ r2) ∧ Hid (cmpM p q = R) ∧ Hid (Bel ((w.alloc (.cells #[.int .i64 6, .int .i64 0, .string ⟨#[]⟩, .int .i64 (N1 : Int)] 44)).alloc (.cells #[.int .i64 6, .int .i64 0, .string ⟨#[]⟩, .int .i64 (N2 : Int)] 44)) wr)) (fun _ _ m' _ => N1 - (intOf m').toNat)
  case atStart => exact ⟨x, y, i + 1, k + 1, 0, by go_num, by go_num, rfl, Nat.zero_le _, Nat.zero_le _, by omega, by omega, Lib.hid (by rw [HNx.out]; omega), Lib.hid (by rw [HNy.out]; omega), HX, HW1, HW2, HD1, HD2, HR, Lib.hid (Bel.refl _)⟩
  case round =>
    obtain ⟨p, q, j, l, m, rfl, rfl, rfl, hm1, hm2, hj, hl, hp1, hp2, hX, hwp, hwq, hdp, hdq, hr, hb⟩ := hrel
    rename World => W0
    clear HX HNx HNy HR HD1 HD2 HW1 HW2
    have B0 := (Bel.refl (w.alloc (.cells #[.int .i64 6, .int .i64 0, .string ⟨#[]⟩, .int .i64 (N1 : Int)] 44))).alloc (.cells #[.int .i64 6, .int .i64 0, .string ⟨#[]⟩, .int .i64 (N2 : Int)] 44)
    have a1 := hb.out.cell' (B0.cell' (World.cell?_alloc_new w #[.int .i64 6, .int .i64 0, .string ⟨#[]⟩, .int .i64 (N1 : Int)] 44 0))
    have a4 := hb.out.cell' (B0.cell' (World.cell?_alloc_new w #[.int .i64 6, .int .i64 0, .string ⟨#[]⟩, .int .i64 (N1 : Int)] 44 3))
    have d4 : W0.cell? ⟨w.heap.size + 1, 3, none⟩ = some (.int .i64 (N2 : Int)) := by
      have h := hb.out.cell' (World.cell?_alloc_new (w.alloc (.cells #[.int .i64 6, .int .i64 0, .string ⟨#[]⟩, .int .i64 (N1 : Int)] 44)) #[.int .i64 6, .int .i64 0, .string ⟨#[]⟩, .int .i64 (N2 : Int)] 44 3)
      rw [show (w.alloc (.cells #[.int .i64 6, .int .i64 0, .string ⟨#[]⟩, .int .i64 (N1 : Int)] 44)).heap.size = w.heap.size + 1 by simp] at h
      exact h
    have hW := Below.trans GG.out (Below.mono hb.out (Nat.le_trans (Nat.le_of_lt (alloc_lt w _)) (Nat.le_of_lt (alloc_lt _ _))))
    have HWW := Lib.hid hW
    clear B0 hW
    have hend : Hid (m = N1 ∨ m = N2 → ord (N1 : Int) (N2 : Int) = R) := Lib.hid (by
      intro h
      have e1 := hp1.out
      have e2 := hp2.out
      have e3 := hr.out
      cases p with
      | nil =>
        cases q with
        | nil =>
          simp only [lenM] at e1 e2
          rw [← e3, cmpM, show N1 = N2 by omega]
          exact ordn_eq _
        | cons ky v q =>
          simp only [lenM] at e1 e2
          rw [← e3, cmpM]
          exact ordn_lt (by omega)
      | cons kx u p =>
        cases q with
        | nil =>
          simp only [lenM] at e1 e2
          rw [← e3, cmpM]
          exact ordn_gt (by omega)
        | cons ky v q =>
          simp only [lenM] at e1 e2
          omega)
    by_cases hlt : m < N1
    · by_cases hlt2 : m < N2
      · clear hend
        cases p with
        | nil =>
          have e1 := hp1.out
          rw [lenM] at e1
          omega
        | cons kx u p =>
          cases q with
          | nil =>
            have e2 := hp2.out
            rw [lenM] at e2
            omega
          | cons ky v q =>
            have g1 := hdp.out
            have g2 := hdq.out
            have wp := hwp.out
            have wq := hwq.out
            rw [flatM, List.cons_append, List.append_assoc] at g1 g2
            obtain ⟨ij, ej, gg1⟩ := cell_of g1
            obtain ⟨il, el, gg2⟩ := cell_of g2
            obtain ⟨q1, hwp1⟩ := wp
            obtain ⟨q2, hwq1⟩ := wq
            rw [wfM, Bool.and_eq_true, Bool.and_eq_true, Bool.and_eq_true] at hwp1 hwq1
            have hwp2 : Hid (wfMX p) := Lib.hid ⟨_, hwp1.2⟩
            have hwq2 : Hid (wfMX q) := Lib.hid ⟨_, hwq1.2⟩
            have wu := hwp1.1.2
            have wv := hwq1.1.2
            clear g1 g2
            have g1 := gg1
            have g2 := gg2
            obtain ⟨bb1, ff1, hh1, hcs1⟩ := (HA.out.on HWW.out).2.2 (by omega)
            obtain ⟨bb2, ff2, hh2, hcs2⟩ := (HB.out.on HWW.out).2.2 (by omega)
            cases hh1
            cases hh2
            obtain ⟨_, _, k1, _⟩ := hcs1 j ij
            obtain ⟨_, _, k2, _⟩ := hcs2 l il
            rw [ej] at k1
            rw [el] at k2
            simp only at k1 k2
            obtain ⟨X, hXe⟩ : ∃ X : ByteArray, ⟨kx.toArray⟩ = X := ⟨_, rfl⟩
            obtain ⟨Y, hYe⟩ : ∃ Y : ByteArray, ⟨ky.toArray⟩ = Y := ⟨_, rfl⟩
            have hXs : X.toList = kx := by rw [← hXe, tl kx]
            have hYs : Y.toList = ky := by rw [← hYe, tl ky]
            rw [hXe] at k1
            rw [hYe] at k2
            obtain ⟨f, hf⟩ : ∃ f, j + 1 = f := ⟨_, rfl⟩
            obtain ⟨g, hg⟩ : ∃ g, l + 1 = g := ⟨_, rfl⟩
            rw [hf] at g1
            rw [hg] at g2
            obtain ⟨e1, e2, e3⟩ := nx_flat g1 wu
            obtain ⟨e4, e5, e6⟩ := nx_flat g2 wv
            have hu := flat_pos u
            have hv := flat_pos v
            have NA := next_all la la.length (some ⟨b1, f1, none⟩) n1 c1 f (by omega) (by omega) hn1
            have NB := next_all lb lb.length (some ⟨b2, f2, none⟩) n2 c2 g (by omega) (by omega) hn2
            rw [e1] at NA
            rw [e4] at NB
            obtain ⟨J, hJ⟩ : ∃ J, f + (flat u).length = J := ⟨_, rfl⟩
            obtain ⟨M, hM⟩ : ∃ M, g + (flat v).length = M := ⟨_, rfl⟩
            rw [hJ] at NA e2 e3
            rw [hM] at NB e5 e6
            have hC := hX.out.1 v (some ⟨b1, f1, none⟩) n1 c1 f _ (some ⟨b2, f2, none⟩) n2 c2 g _ g1 g2 wu wv hn1 hn2
            have hX2 := Lib.hid hX.out.2
            have hr0 := hr.out
            rw [cmpM] at hr0
            obtain ⟨c, hc⟩ : ∃ c, cmp u v = c := ⟨_, rfl⟩
            rw [hc] at hC hr0
            have HC := Lib.hid hC
            have HNA := Lib.hid NA
            have HNB := Lib.hid NB
            have hp3 : Hid (m + 1 + lenM p = N1) := Lib.hid (by have := hp1.out; rw [lenM] at this; omega)
            have hq3 : Hid (m + 1 + lenM q = N2) := Lib.hid (by have := hp2.out; rw [lenM] at this; omega)
            have hd3 := Lib.hid e2
            have hd4 := Lib.hid e5
            have hJ2 : J ≤ n1 := by omega
            have hM2 : M ≤ n2 := by omega
            have hjn : j < n1 := by omega
            have hln : l < n2 := by omega
            unfold andThen at hr0
            have hfj : Hid (f = j + 1) := Lib.hid hf.symm
            have hgl : Hid (g = l + 1) := Lib.hid hg.symm
            rw [← hXs, ← hYs] at hr0
            obtain ⟨d, hd⟩ : ∃ d, words X.toList Y.toList = d := ⟨_, rfl⟩
            have hWd := fun W => words_any X Y W
            rw [hd] at hr0 hWd
            have HWd := Lib.hid hWd
            subst hf hg
            have G0 := HWW.out
            have G1 := hb.out
            clear hp1 hp2 hX hwp hwq hdp hdq g1 g2 gg1 gg2 wu wv e1 e2 e3 e4 e5 e6 hu hv NA NB hJ hM hC hr hc hd hWd hXs hYs hXe hYe hcs1 hcs2 ej el hwp1 hwq1
            by_cases hd0 : d = 0
            · rw [if_pos hd0] at hr0
              subst hd0
              by_cases hc0 : c = 0
              · rw [if_pos hc0] at hr0
                have hr2 := Lib.hid hr0
                subst hc0
                clear hr0
                go_upto_region 15 with (fail)
                go_region_held3 (fun w' => w'.cell? ⟨b1, f1 + j * 4 + 2, none⟩ = some (.string X) ∧ w'.cell? ⟨b2, f2 + l * 4 + 2, none⟩ = some (.string Y) ∧ Bel w w' ∧ Bel ((w.alloc (.cells #[.int .i64 6, .int .i64 0, .string ⟨#[]⟩, .int .i64 (N1 : Int)] 44)).alloc (.cells #[.int .i64 6, .int .i64 0, .string ⟨#[]⟩, .int .i64 (N2 : Int)] 44)) w') (first | exact ⟨k1, k2, Below.drew G0, Below.drew G1⟩ | assumption) (first | (go_at_call 78; (with_reducible refine (HWd.out _).mono ?_); rintro e w' ⟨rfl, rfl⟩))
                obtain ⟨q1, q2, HG0, HG1⟩ := ‹_ ∧ _ ∧ Bel w _ ∧ Bel _ _›
                have G2 := Lib.hid HG0
                have G3 := Lib.hid HG1
                go_wp2_with fail
                refine (HC.out _ (HA.out.on G2.out) (HB.out.on G2.out)).mono ?_
                rintro e w3 ⟨rfl, s3⟩
                have T3 := Lib.hid (Bel.trans G2.out s3)
                have b3 := Lib.hid (Bel.trans G3.out s3)
                clear s3
                go_wp2_with fail
                refine (HNA.out w3 (HA.out.on T3.out)).mono ?_
                rintro e w4 ⟨rfl, s4⟩
                have T4 := Lib.hid (Bel.trans T3.out s4)
                have b4 := Lib.hid (Bel.trans b3.out s4)
                clear s4 T3
                go_wp2_with fail
                refine (HNB.out w4 (HB.out.on T4.out)).mono ?_
                rintro e w5 ⟨rfl, s5⟩
                have b5 := Lib.hid (Bel.trans b4.out s5)
                clear s5 T4 b3 b4
                go_wp2_with fail
                go_round
                case rel => exact ⟨p, q, J, M, m + 1, rfl, rfl, by go_num, by omega, by omega, hJ2, hM2, hp3, hq3, hX2, hwp2, hwq2, hd3, hd4, hr2, b5⟩
                case measure => simp [intOf]; omega
              · rw [if_neg hc0] at hr0
                have hr2 := Lib.hid hr0
                clear hr0
                go_upto_region 15 with (fail)
                go_region_held3 (fun w' => w'.cell? ⟨b1, f1 + j * 4 + 2, none⟩ = some (.string X) ∧ w'.cell? ⟨b2, f2 + l * 4 + 2, none⟩ = some (.string Y) ∧ Bel w w' ∧ Bel ((w.alloc (.cells #[.int .i64 6, .int .i64 0, .string ⟨#[]⟩, .int .i64 (N1 : Int)] 44)).alloc (.cells #[.int .i64 6, .int .i64 0, .string ⟨#[]⟩, .int .i64 (N2 : Int)] 44)) w') (first | exact ⟨k1, k2, Below.drew G0, Below.drew G1⟩ | assumption) (first | (go_at_call 78; (with_reducible refine (HWd.out _).mono ?_); rintro e w' ⟨rfl, rfl⟩))
                obtain ⟨q1, q2, HG0, HG1⟩ := ‹_ ∧ _ ∧ Bel w _ ∧ Bel _ _›
                have G2 := Lib.hid HG0
                have G3 := Lib.hid HG1
                go_wp2_with fail
                refine (HC.out _ (HA.out.on G2.out) (HB.out.on G2.out)).mono ?_
                rintro e w3 ⟨rfl, s3⟩
                have T3 := Lib.hid (Bel.trans G2.out s3)
                clear s3
                go_wp2_with fail
                go_ret
                exact ⟨by rw [← hr2.out]; rfl, T3.out⟩
            · rw [if_neg hd0] at hr0
              have hr2 := Lib.hid hr0
              clear hr0
              go_upto_region 15 with (fail)
              go_region_held3 (fun w' => w'.cell? ⟨b1, f1 + j * 4 + 2, none⟩ = some (.string X) ∧ w'.cell? ⟨b2, f2 + l * 4 + 2, none⟩ = some (.string Y) ∧ Bel w w' ∧ Bel ((w.alloc (.cells #[.int .i64 6, .int .i64 0, .string ⟨#[]⟩, .int .i64 (N1 : Int)] 44)).alloc (.cells #[.int .i64 6, .int .i64 0, .string ⟨#[]⟩, .int .i64 (N2 : Int)] 44)) w') (first | exact ⟨k1, k2, Below.drew G0, Below.drew G1⟩ | assumption) (first | (go_at_call 78; (with_reducible refine (HWd.out _).mono ?_); rintro e w' ⟨rfl, rfl⟩))
              obtain ⟨q1, q2, HG0, HG1⟩ := ‹_ ∧ _ ∧ Bel w _ ∧ Bel _ _›
              have G2 := Lib.hid HG0
              go_wp2_with fail
              go_ret
              exact ⟨by rw [← hr2.out]; rfl, G2.out⟩
      · have he := Lib.hid (hend.out (.inr (by omega)))
        clear hend
        go_wp2_with (go_at_call 77; ((with_reducible refine (order_any (N1 : Int) (N2 : Int) _).mono ?_); rintro e w' ⟨rfl, rfl⟩))
        go_ret
        exact ⟨by rw [← he.out]; rfl, HWW.out⟩
    · have he := Lib.hid (hend.out (.inl (by omega)))
      clear hend
      go_wp2_with (go_at_call 77; ((with_reducible refine (order_any (N1 : Int) (N2 : Int) _).mono ?_); rintro e w' ⟨rfl, rfl⟩))
      go_ret
      exact ⟨by rw [← he.out]; rfl, HWW.out⟩
end Val
end Go.Proofs.YtonlcjackbhnmaaGreatDoor

/-
  Layer 6, the reference: Cmp.
-/
namespace Go.Proofs.YtonlcjackbhnmaaGreatDoor
open Go.RowKit Go.ChangeShapes Go.WideShapes
namespace Val

theorem cmp_all (la lb : List Cel) : ∀ s t, CmpI la lb s t := by
  refine V_ind (P := fun s => ∀ t, CmpI la lb s t) ?_ ?_ ?_ ?_ ?_ ?_
  · intro t
    cases t with
    | null => exact cmp_null la lb
    | _ => exact cmp_differ la lb _ _ (by simp [kind])
  · intro b t
    cases t with
    | bool c => exact cmp_bool la lb b c
    | _ => exact cmp_differ la lb _ _ (by simp [kind])
  · intro b t
    cases t with
    | int c => exact cmp_int la lb b c
    | _ => exact cmp_differ la lb _ _ (by simp [kind])
  · intro b t
    cases t with
    | str c => exact cmp_str la lb b c
    | _ => exact cmp_differ la lb _ _ (by simp [kind])
  · intro x hx t
    cases t with
    | list y => exact cmp_list la lb x y hx
    | _ => exact cmp_differ la lb _ _ (by simp [kind])
  · intro x hx t
    cases t with
    | map y => exact cmp_map la lb x y hx
    | _ => exact cmp_differ la lb _ _ (by simp [kind])
/-- What Cmp answers. -/
def cmpB (a b : List Cel) : Int := if chk a = 0 ∧ chk b = 0 then (match par a, par b with
  | some s, some t => cmp s t
  | _, _ => 0) else 0
set_option maxHeartbeats 1000000 in
theorem rcmp_any (la lb : List Cel) (o1 o2 : Option Addr) (n1 c1 n2 c2 : Nat) (hn1 : n1 ≤ 1000000) (hn2 : n2 ≤ 1000000) (w : World) (hL : Lad w) (hA : CArg w o1 n1 la) (hB : CArg w o2 n2 lb) :
    Calls Tryz.prog 22 #[.slice o1 n1 c1, .slice o2 n2 c2] w fun e w' => e = .returned (.int .i64 (cmpB la lb)) ∧ Bel w w' := by
  have HC := Lib.hid (check_any la o1 n1 c1 hn1 w hL hA)
  have HD := Lib.hid (fun (W : World) (h : Bel w W) => check_any lb o2 n2 c2 hn2 W (hL.on h) (hB.on h))
  by_cases h1 : chk la = 0
  · by_cases h2 : chk lb = 0
    · obtain ⟨s, hs, _⟩ := chk_ok h1
      obtain ⟨t, ht, _⟩ := chk_ok h2
      have hz := Lib.hid (show cmpB la lb = cmp s t by unfold cmpB; rw [if_pos ⟨h1, h2⟩, hs, ht])
      obtain ⟨ws, ls⟩ := par_some.1 hs
      obtain ⟨wt, lt⟩ := par_some.1 ht
      have HE := Lib.hid (fun (W : World) (h : Bel w W) => cmp_all la lb s t o1 n1 c1 0 [] o2 n2 c2 0 [] (by rw [List.drop_zero, List.append_nil]; exact ls) (by rw [List.drop_zero, List.append_nil]; exact lt) ws wt hn1 hn2 W (hA.on h) (hB.on h))
      rw [show (((0 : Nat) : Int)) = 0 from rfl] at HE
      rw [h1] at HC
      rw [h2] at HD
      rw [hz.out]
      generalize cmp s t = R at *
      clear h1 h2 hs ht hz ws ls wt lt hA hB hL
      go_enter Tryz.func22, Tryz.ntmps22
      go_wp2_with fail
      refine HC.out.mono ?_
      rintro e w1 ⟨rfl, g1⟩
      go_wp2_with fail
      refine (HD.out w1 g1).mono ?_
      rintro e w2 ⟨rfl, g2⟩
      have T := Bel.trans g1 g2
      go_wp2_with fail
      refine (HE.out w2 T).mono ?_
      rintro e w3 ⟨rfl, g3⟩
      go_wp2_with fail
      go_ret
      exact ⟨rfl, Bel.trans T g3⟩
    · have hz : cmpB la lb = 0 := if_neg (fun h => h2 h.2)
      rw [hz]
      rw [h1] at HC
      generalize chk lb = E at *
      clear hz h1 hA hB hL
      go_enter Tryz.func22, Tryz.ntmps22
      go_wp2_with fail
      refine HC.out.mono ?_
      rintro e w1 ⟨rfl, g1⟩
      go_wp2_with fail
      refine (HD.out w1 g1).mono ?_
      rintro e w2 ⟨rfl, g2⟩
      go_wp2_with fail
      go_ret
      exact ⟨rfl, Bel.trans g1 g2⟩
  · have hz : cmpB la lb = 0 := if_neg (fun h => h1 h.1)
    rw [hz]
    generalize chk la = E at *
    clear hz hA hB hL HD
    go_enter Tryz.func22, Tryz.ntmps22
    go_wp2_with fail
    refine HC.out.mono ?_
    rintro e w1 ⟨rfl, g1⟩
    go_wp2_with fail
    go_ret
    exact ⟨rfl, g1⟩
end Val
end Go.Proofs.YtonlcjackbhnmaaGreatDoor

/-
  Layer 6, the reference: starts, readString.
-/
namespace Go.Proofs.YtonlcjackbhnmaaGreatDoor
open Go.RowKit Go.ChangeShapes Go.WideShapes
namespace Val

theorem cut_mid (s : ByteArray) (i j : Nat) (zi zj : Int) (hi : zi = (i : Int)) (hj : zj = (j : Int)) (h1 : i ≤ j) (h2 : j ≤ s.size) (w : World) :
    (Instr.slice 9 (.string s) (some (.int .i64 zi)) (some (.int .i64 zj)) none).run Tryz.prog w = .ok (.string (s.extract i j)) w := by
  subst hi hj
  rw [run_slice_string_if w 9 s .i64 .i64 (i : Int) (j : Int) Tryz.underlying9, if_pos ⟨by omega, by omega⟩, if_pos ⟨by omega, by omega⟩, Int.toNat_natCast, Int.toNat_natCast]
theorem ext_list (s : ByteArray) (i j : Nat) : (s.extract i j).toList = (s.toList.drop i).take (j - i) := by
  rw [toL, toL, ByteArray.data_extract, Array.toList_extract]
/-- What readString reads. -/
def strB (l : Txt) : Option (Txt × Txt) := match l with
  | [] => none
  | c :: r => if c = 34 then rdS r else none
/-- The index where what is left begins, or -1. -/
def ixR {α : Type} (n : Nat) : Option (α × Txt) → Int
  | none => -1
  | some (_, q) => (n : Int) - (q.length : Int)
def txR : Option (Txt × Txt) → Txt
  | none => []
  | some (t, _) => t
def preR (O : Txt) : Option (Txt × Txt) → Option (Txt × Txt)
  | none => none
  | some (t, q) => some (O ++ t, q)
theorem drop_at {s : ByteArray} {k : Nat} (h : k < s.size) : s.toList.drop k = s[k] :: s.toList.drop (k + 1) := by
  have hl : k < s.toList.length := by rw [toL_len]; exact h
  rw [List.drop_eq_getElem_cons hl, toL_get s k h]
theorem pre_one (O : Txt) (c : UInt8) (x : Option (Txt × Txt)) : preR O (match x with | none => none | some (s, t) => some (c :: s, t)) = preR (O ++ [c]) x := by
  cases x with
  | none => rfl
  | some y => obtain ⟨t, q⟩ := y; simp [preR]
theorem rdS_one {c : UInt8} {r : Txt} (h1 : c ≠ 34) (h2 : c ≠ 92) (O : Txt) : preR O (rdS (c :: r)) = preR (O ++ [c]) (rdS r) := by
  rw [← pre_one, rdS.eq_def]
  simp only [if_neg h1, if_neg h2]
  rfl
theorem rdS_two {d : UInt8} {r : Txt} (h : d = 34 ∨ d = 92) (O : Txt) : preR O (rdS (92 :: d :: r)) = preR (O ++ [d]) (rdS r) := by
  rw [← pre_one, rdS, if_neg (by decide), if_pos rfl]
  simp only [if_pos h]
  rfl
theorem rdS_bad {d : UInt8} {r : Txt} (h : ¬ (d = 34 ∨ d = 92)) : rdS (92 :: d :: r) = none := by
  rw [rdS, if_neg (by decide), if_pos rfl]
  simp only [if_neg h]
theorem rdS_cut : rdS [92] = none := by
  rw [rdS, if_neg (by decide), if_pos rfl]
theorem n34 (c : UInt8) : ((c.toNat : Int) != 34) = !decide (c = 34) := by rw [← b34]; rfl
theorem n92 (c : UInt8) : ((c.toNat : Int) != 92) = !decide (c = 92) := by rw [← b92]; rfl
end Val
end Go.Proofs.YtonlcjackbhnmaaGreatDoor

/-
  Layer 6, the reference: what readInt reads, plainly.
-/
namespace Go.Proofs.YtonlcjackbhnmaaGreatDoor
open Go.RowKit
namespace Val

/-- The integer that readInt tells. -/
def clampI (n : Int) : Int := if n.natAbs < 1000000000000000000 then n else if n < 0 then -2000000000000 else 2000000000000
def intR (l : Txt) : Option (Int × Txt) := (rdI l).map fun x => (clampI x.1, x.2)
theorem valD_lt : ∀ l : Txt, l.all isD = true → valD l < 10 ^ l.length := by
  refine rev_ind ?_ ?_
  · intro _; decide
  · intro l c ih h
    rw [List.all_append, Bool.and_eq_true] at h
    have h1 := ih h.1
    have h2 := isD_bd (c := c) (by simpa using h.2)
    rw [valD_snoc, List.length_append, List.length_singleton, Nat.pow_succ]
    omega
theorem valD_ge : ∀ l : Txt, l.all isD = true → l ≠ [] → l.head? ≠ some 48 → 10 ^ (l.length - 1) ≤ valD l := by
  refine rev_ind ?_ ?_
  · intro _ h; exact absurd rfl h
  · intro l c ih h _ hh
    rw [List.all_append, Bool.and_eq_true] at h
    by_cases h0 : l = []
    · subst h0
      have h1 := val_pos (l := [] ++ [c]) (by simpa using h.2) (by simp) hh
      simpa using h1
    · have h1 := ih h.1 h0 (by cases l with
        | nil => exact absurd rfl h0
        | cons a r => simpa using hh)
      have hp : 0 < l.length := List.length_pos_iff.2 h0
      rw [valD_snoc, List.length_append, List.length_singleton, Nat.add_sub_cancel]
      obtain ⟨n, hn⟩ : ∃ n, l.length = n + 1 := ⟨l.length - 1, by omega⟩
      rw [hn] at h1 ⊢
      rw [Nat.add_sub_cancel] at h1
      rw [Nat.pow_succ]
      omega
theorem pow18 {n m : Nat} (h : n ≤ m) : 10 ^ n ≤ 10 ^ m := Nat.pow_le_pow_right (by decide) h
/-- The digits at a place. -/
def digs (s : ByteArray) (f : Nat) : Txt := (s.toList.drop f).takeWhile isD
theorem digs_all (s : ByteArray) (f : Nat) : (digs s f).all isD = true := by
  unfold digs
  generalize s.toList.drop f = l
  induction l with
  | nil => rfl
  | cons c l ih =>
    simp only [List.takeWhile]
    cases h : isD c with
    | true => simp [h, ih]
    | false => rfl
theorem digs_le (s : ByteArray) (f : Nat) : f + (digs s f).length ≤ s.size ∨ (digs s f).length = 0 := by
  have h : (digs s f).length ≤ (s.toList.drop f).length := (List.takeWhile_prefix isD).length_le
  rw [List.length_drop, toL_len] at h
  omega
theorem digs_get {s : ByteArray} {f k : Nat} (h : k < (digs s f).length) : ∃ h2 : f + k < s.size, (digs s f)[k] = s[f + k] ∧ isD s[f + k] = true := by
  have h1 : f + k < s.size := by have := digs_le s f; omega
  have hp : digs s f <+: s.toList.drop f := List.takeWhile_prefix isD
  have e : (digs s f)[k] = s[f + k] := by
    have := hp.getElem h
    rw [this, List.getElem_drop]
    exact toL_get s (f + k) h1
  refine ⟨h1, e, ?_⟩
  rw [← e]
  exact List.all_eq_true.1 (digs_all s f) _ (List.getElem_mem h)
theorem digs_end {s : ByteArray} {f : Nat} (h : f + (digs s f).length < s.size) : isD s[f + (digs s f).length] = false := by
  have e : s.toList.drop f = digs s f ++ (s.toList.drop f).dropWhile isD := (List.takeWhile_append_dropWhile ..).symm
  have hb := beg_drop (s.toList.drop f)
  have e2 : s.toList.drop (f + (digs s f).length) = (s.toList.drop f).dropWhile isD := by
    rw [← List.drop_drop]
    conv => lhs; rw [e]
    exact List.drop_left
  rw [← e2, drop_at h] at hb
  exact hb
theorem digs_drop (s : ByteArray) (f : Nat) : (s.toList.drop f).dropWhile isD = s.toList.drop (f + (digs s f).length) := by
  have e : s.toList.drop f = digs s f ++ (s.toList.drop f).dropWhile isD := (List.takeWhile_append_dropWhile ..).symm
  rw [← List.drop_drop]
  conv => rhs; rw [e]
  exact List.drop_left.symm
/-- What the digits tell. -/
def told (D : Txt) : Int := if 18 < D.length then 2000000000000 else (valD D : Int)
theorem told_eq {D : Txt} (h : okD D = true) : clampI (valD D : Int) = told D ∧ (D ≠ [48] → clampI (-(valD D : Int)) = -told D) := by
  unfold okD at h
  simp only [Bool.and_eq_true, Bool.or_eq_true, beq_iff_eq, Bool.not_eq_true', bne_iff_ne] at h
  have h1 := valD_lt D h.1.1
  unfold told clampI
  by_cases hl : 18 < D.length
  · have hh : D.head? ≠ some 48 := by
      rcases h.2 with rfl | h2
      · simp at hl
      · exact h2
    have h2 := valD_ge D h.1.1 (fun e => by rw [e] at hl; simp at hl) hh
    have h3 : 10 ^ 18 ≤ 10 ^ (D.length - 1) := pow18 (by omega)
    have h4 : (10 : Nat) ^ 18 = 1000000000000000000 := by decide
    rw [if_pos hl, if_neg (by omega), if_neg (by omega), if_neg (by omega), if_pos (by omega)]
    exact ⟨rfl, fun _ => rfl⟩
  · have h3 : 10 ^ D.length ≤ 10 ^ 18 := pow18 (by omega)
    have h4 : (10 : Nat) ^ 18 = 1000000000000000000 := by decide
    rw [if_neg hl, if_pos (by omega), if_pos (by omega)]
    exact ⟨rfl, fun _ => rfl⟩
end Val
end Go.Proofs.YtonlcjackbhnmaaGreatDoor

/-
  Layer 6, the reference: readInt.
-/
namespace Go.Proofs.YtonlcjackbhnmaaGreatDoor
open Go.RowKit Go.ChangeShapes Go.WideShapes
namespace Val

def intC : Option (Int × Txt) → List Cel
  | none => []
  | some (n, _) => [⟨3, n, [], 0⟩]
theorem n45 (c : UInt8) : ((c.toNat : Int) == 45) = decide (c = 45) := by
  rw [Bool.eq_iff_iff, beq_iff_eq, decide_eq_true_eq]
  constructor
  · intro h; apply UInt8.toNat_inj.1; have : (45 : UInt8).toNat = 45 := rfl; omega
  · rintro rfl; rfl
theorem n48 (c : UInt8) : ((c.toNat : Int) == 48) = decide (c = 48) := by
  rw [Bool.eq_iff_iff, beq_iff_eq, decide_eq_true_eq]
  constructor
  · intro h; apply UInt8.toNat_inj.1; have : (48 : UInt8).toNat = 48 := rfl; omega
  · rintro rfl; rfl
theorem not_isD {c : UInt8} (h : isD c = false) : ((c.toNat : Int) < 48) ∨ (57 < (c.toNat : Int)) := by
  unfold isD at h
  simp at h
  omega
theorem okD_nil : okD [] = false := rfl
theorem okD_zero {D : Txt} (h : 0 < D.length) (h0 : D[0] = 48) : okD D = decide (D.length = 1) := by
  cases D with
  | nil => simp at h
  | cons c r =>
    simp at h0
    subst h0
    cases r with
    | nil => rfl
    | cons d r => simp [okD]
theorem okD_one {D : Txt} (ha : D.all isD = true) (h : 0 < D.length) (h0 : ¬ D[0] = 48) : okD D = true ∧ D ≠ [48] := by
  cases D with
  | nil => simp at h
  | cons c r =>
    simp at h0
    refine ⟨?_, fun e => h0 (by cases e; rfl)⟩
    unfold okD
    rw [ha]
    simp [h0]
theorem valD_step {D : Txt} {k : Nat} (h : k < D.length) : valD (D.take (k + 1)) = valD (D.take k) * 10 + (D[k].toNat - 48) := by
  rw [List.take_succ_eq_append_getElem h, valD_snoc]
theorem take_bd {D : Txt} (ha : D.all isD = true) {k : Nat} (h : k < 18) : valD (D.take k) ≤ 99999999999999999 := by
  have h1 := valD_lt (D.take k) (by
    rw [List.all_eq_true] at ha ⊢
    exact fun x hx => ha x (List.mem_of_mem_take hx))
  have h2 : 10 ^ (D.take k).length ≤ 10 ^ 17 := pow18 (by simp; omega)
  have h4 : (10 : Nat) ^ 17 = 100000000000000000 := by decide
  omega
theorem take_bd2 {D : Txt} (ha : D.all isD = true) {k : Nat} (h : k ≤ 18) : valD (D.take k) ≤ 999999999999999999 := by
  have h1 := valD_lt (D.take k) (by
    rw [List.all_eq_true] at ha ⊢
    exact fun x hx => ha x (List.mem_of_mem_take hx))
  have h2 : 10 ^ (D.take k).length ≤ 10 ^ 18 := pow18 (by simp; omega)
  have h4 : (10 : Nat) ^ 18 = 1000000000000000000 := by decide
  omega
end Val
end Go.Proofs.YtonlcjackbhnmaaGreatDoor
