/-
  Layer 8, texts merged: SzD, SzE, SzF, SzG. For every argument within the bounds that each theorem names.
-/
import Derived.Test.YtinadbomebgfaaaGreatDoorMF4

/-
  Layer 8: expressions, as the program reads them.
-/
namespace Go.Proofs.YtinadbomebgfaaaGreatDoor
open Go.RowKit Go.ChangeShapes Go.WideShapes
namespace Syn

theorem lv_out {x : Cx} {F : FuncId} {l k p : Nat} (h : x.T.length < p) : Lv x F l k p := fun f _ S o n c L w hr => by
  have := hr.ts.pos
  omega
/-- All levels of expressions at a place. -/
structure Al (x : Cx) (p : Nat) : Prop where
  expr : Lv x 181 1 11 p
  and : Lv x 191 2 10 p
  not : Lv x 197 3 9 p
  cmp : Lv x 199 4 8 p
  sum : Lv x 201 5 7 p
  term : Lv x 203 6 6 p
  unary : Lv x 205 7 5 p
  post : Lv x 207 8 4 p
  prim : Lv x 212 9 3 p
theorem al_out {x : Cx} {p : Nat} (h : x.T.length < p) : Al x p := ⟨lv_out h, lv_out h, lv_out h, lv_out h, lv_out h, lv_out h, lv_out h, lv_out h, lv_out h⟩
theorem al_any (x : Cx) : ∀ d p, x.T.length + 1 - p ≤ d → Al x p
  | 0, p, h => al_out (by omega)
  | d + 1, p, h => by
    have IH : ∀ p', p < p' → Al x p' := fun p' h' => al_any x d p' (by omega)
    have up : ∀ {F l k}, Lv x F l k p → (∀ p', p < p' → Lv x F l k p') → ∀ p', p ≤ p' → Lv x F l k p' := fun h0 h1 p' h' => by
      rcases Nat.eq_or_lt_of_le h' with rfl | h'
      · exact h0
      · exact h1 p' h'
    have prim := prim_any (x := x) (p := p) fun p' h' => (IH p' h').expr
    have post := post_any (x := x) (p0 := p) prim fun p' h' => (IH p' h').expr
    have unary := unary_any (x := x) (p := p) (fun p' h' => (IH p' h').unary) post
    have term := term_any (x := x) (p := p) (up unary fun p' h' => (IH p' h').unary)
    have sum := sum_any (x := x) (p := p) (up term fun p' h' => (IH p' h').term)
    have cmp := cmp_any (x := x) (p := p) (up sum fun p' h' => (IH p' h').sum)
    have not := not_any (x := x) (p := p) (fun p' h' => (IH p' h').not) cmp
    have and := and_any (x := x) (p := p) (up not fun p' h' => (IH p' h').not)
    have expr := expr_any (x := x) (p := p) (up and fun p' h' => (IH p' h').and)
    exact ⟨expr, and, not, cmp, sum, term, unary, post, prim⟩
/-- The program's expr reads what the plain reader reads. -/
theorem expr_all (x : Cx) (p : Nat) : Lv x 181 1 11 p := (al_any x _ p (Nat.le_refl _)).expr
/-- A plain part of the reader, by a function of how much is enough. -/
def Rf (x : Cx) (F : FuncId) (G : Nat → List Ck → RR T) (k p : Nat) : Prop := ∀ f, 20 * (x.T.length - p) + k ≤ f → Rd x F (G f) p
def endR (k : Int) (s : Txt) : RR T → RR T
  | .ok t r => if isT [59] (hd r) then .ok (.node k s 0 [] (.cons t .nil)) r.tail else .bad r
  | .bad r => .bad r
theorem endR_y {k : Int} {s : Txt} {t : T} {r : List Ck} (h : isT [59] (hd r) = true) : endR k s (.ok t r) = .ok (.node k s 0 [] (.cons t .nil)) r.tail := if_pos h
theorem endR_n {k : Int} {s : Txt} {t : T} {r : List Ck} (h : isT [59] (hd r) = false) : endR k s (.ok t r) = .bad r := if_neg (by rw [h]; decide)
theorem rdN_end (n : Nat) (k : Int) (s : Txt) (r : List Ck) : rdN n k s r = endR k s (rdE n 1 r) := by
  unfold rdN
  cases rdE n 1 r <;> rfl
theorem flat_one (n : Nat) (k : Int) (s : Txt) (t : T) : flat n (.node k s 0 [] (.cons t .nil)) = flat n t ++ [⟨k, s, 0, [], [(n : Int) + (size t : Int) - 1]⟩] := by
  have h1 := size_pos t
  rw [flat, flats, flats, roots, roots, List.append_nil]
  congr 4
  omega
theorem size_one (k : Int) (s : Txt) (t : T) : size (.node k s 0 [] (.cons t .nil)) = size t + 1 := by rw [size, sizes, sizes] <;> omega
set_option maxRecDepth 100000 in
set_option maxHeartbeats 4000000 in
theorem ending_any {x : Cx} {S : Nat → Prop} {p : Nat} {o : Option Addr} {n c : Nat} {L : List Nd} (k : Int) (s : Txt) (w : World) (h : RS x S p o n c L w) (q : Nat) (hq : q ≤ p) (f : Nat) (hf : 20 * (x.T.length - p) + 11 ≤ f) :
    Calls Tryz.prog 161 #[.pointer (some ⟨x.g, 0, none⟩), .agg #[.int .i64 k, .string ⟨s.toArray⟩, .int .i64 0, .slice none 0 0, .slice none 0 0]] w (EPost x S p q n o L (endR k s (rdE f 1 (x.at p))) w) := by
  have hnp := h.np
  obtain ⟨W, hW⟩ : ∃ W, w.alloc (.cells #[.int .i64 k, .string ⟨s.toArray⟩, .int .i64 0, .slice none 0 0, .slice none 0 0] 58) = W := ⟨_, rfl⟩
  have B : Bel w W := by rw [← hW]; exact Bel.alloc (Bel.refl w) _
  have hb5 : NBox W w.heap.size k s 0 (.slice none 0 0) (.slice none 0 0) := by
    rw [← hW]
    obtain ⟨y0, y1, y2, y3, y4⟩ := box5 w (.int .i64 k) (.string ⟨s.toArray⟩) (.int .i64 0) (.slice none 0 0) (.slice none 0 0) 58
    exact ⟨y0, y1, y2, y3, y4, fun j => World.frozen?_alloc_new _ _ _ _⟩
  have hlt := hb5.lt
  let S' : Nat → Prop := fun b => S b ∨ b = w.heap.size
  have hR' : RS x S' p o n c L W := h.wide B (fun b hb => hb.elim Or.inl fun e => Or.inr (by omega)) (fun b hb => hb.elim (fun e => Nat.lt_of_lt_of_le (h.sl b e).1 B.size) fun e => by rw [e]; exact hlt) (Or.inl h.sg)
  have hne : ¬ (w.heap.size = x.g ∨ Blk o w.heap.size) := fun e => by
    rcases e with e | e
    · have := (h.sl _ h.sg).1; omega
    · exact Nat.lt_irrefl _ (h.own.blk e).2
  have hE := expr_all x p f hf S' o n c L W hR'
  have Hw := Lib.hid hW
  have HB := Lib.hid B
  cases hg : rdE f 1 (x.at p) with
  | bad r =>
    rw [hg] at hE
    have HE := Lib.hid (hE.mono fun e w' (k : Stops x o W e w' r) => Stops.from (RTo.of_bel B) k)
    clear h hE hR' B hb5 hW
    go_enter Tryz.func161, Tryz.ntmps161
    go_wp2_with fail
    rw [Hw.out]
    refine HE.out.mono ?_
    rintro e w2 ⟨rfl, H2⟩
    have H2c := Lib.hid H2
    clear H2
    go_wp2_with fail
    exact ⟨rfl, rfl, H2c.out⟩
  | ok t r =>
    rw [hg] at hE
    have HE := Lib.hid hE
    have Hsg := Lib.hid h.sg
    have Hsl := Lib.hid h.sl
    have Htb : Hid (x.tb < w.heap.size) := Lib.hid (Nat.lt_of_lt_of_le h.lt.2.1 h.lt.2.2)
    have Hbx := Lib.hid hb5
    clear h hE hR' B hb5 hW hg
    go_enter Tryz.func161, Tryz.ntmps161
    go_wp2_with fail
    rw [Hw.out]
    refine HE.out.mono ?_
    rintro e w2 ⟨rfl, p2, o2, c2, r2, t2, rfl, hp2, hs2⟩
    have hp2T := r2.ts.pos
    have bx2 := Hbx.out.same (t2.mod.block _ Hbx.out.lt hne)
    have hlt2 := bx2.lt
    -- the kids' row, and the box
    obtain ⟨W2, hW2⟩ : ∃ W2, w2.setCell ⟨w.heap.size, 4, none⟩ (.slice (some ⟨w2.heap.size, 0, none⟩) 1 1) = W2 := ⟨_, rfl⟩
    have hsz2 : W2.heap.size = w2.heap.size := by rw [← hW2]; simp [World.setCell]
    have m4 : Mod (fun b => b = w.heap.size) w2 W2 := by rw [← hW2]; exact (Mod.refl (fun b => b = w.heap.size) _).setCell (p := ⟨w.heap.size, 4, none⟩) (Or.inl rfl) _
    have B2 := Bel.alloc (Bel.refl W2) (.cells #[.int .i64 ((n : Int) + (size t : Int) - 1)] 3)
    have bxW : NBox W2 w.heap.size k s 0 (.slice none 0 0) (.slice (some ⟨w2.heap.size, 0, none⟩) 1 1) := by rw [← hW2]; exact bx2.setJ _
    have bx4 := bxW.same (B2.block _ bxW.lt)
    have e1 : x.g < w.heap.size := (Hsl.out _ Hsg.out).1
    have e2 : x.tb ≠ w.heap.size := Nat.ne_of_lt Htb.out
    have r4 := (r2.mod m4 (fun b hb => Or.inr hb) (fun e => by omega) e2).on B2
    have hkb : ∀ b, Blk o2 b → b < w2.heap.size := fun b hb => (r2.own.blk hb).2
    have hsl2 := r2.sl
    have hz4 := new_zarg W2 [(n : Int) + (size t : Int) - 1] 3
    rw [hsz2] at hz4
    have hz4 : ZArg (W2.alloc (.cells #[.int .i64 ((n : Int) + (size t : Int) - 1)] 3)) (some ⟨w2.heap.size, 0, none⟩) 1 [(n : Int) + (size t : Int) - 1] := hz4
    have d4 := bx2.js
    have g4 := bx2.fz 4
    have HZ4 := Lib.hid hz4
    have Hkb := Lib.hid hkb
    have Hsl2 := Lib.hid hsl2
    have R4 := Lib.hid r4
    have BX4 := Lib.hid bx4
    have hw12 : w.heap.size < w2.heap.size := hlt2
    have T4 : Hid (RTo x.g o w o2 (W2.alloc (.cells #[.int .i64 ((n : Int) + (size t : Int) - 1)] 3))) := Lib.hid ⟨((((RTo.of_bel (g := x.g) (o := o) HB.out).trans t2).mod).trans m4 (fun i hi => Or.inr (by rw [hi]; exact Nat.le_refl _))).trans (Mod.of_bel (F := fun _ => False) B2) (fun _ q => q.elim), fun b hb => by
      rcases t2.at_ b hb with e | e
      · exact Or.inl e
      · exact Or.inr (Nat.le_trans HB.out.size e)⟩
    have HW2 := Lib.hid hW2
    have T3 : Hid (RTo x.g o w o2 w2) := Lib.hid ((RTo.of_bel (g := x.g) (o := o) HB.out).trans t2)
    clear r2 t2 bx2 B2 bxW bx4 m4 r4 hz4 hkb hsl2 hW2 hsz2
    cases hb : isT [59] (hd (x.at p2)) with
    | false =>
      have HX := Lib.hid (expect_no [59] _ R4.out hb)
      have Hb := Lib.hid hb
      clear hb
      go_wp2_with fail
      rw [HW2.out]
      refine HX.out.mono ?_
      intro e w5 h5
      obtain ⟨rfl, H5⟩ := Stops.from T4.out h5
      have H5c := Lib.hid H5
      clear h5 H5
      go_wp2_with fail
      rw [endR_n Hb.out]
      exact ⟨rfl, rfl, H5c.out⟩
    | true =>
      have HX := Lib.hid (expect_yes [59] _ R4.out hb)
      have Hb := Lib.hid hb
      clear hb
      go_wp2_with fail
      rw [HW2.out]
      refine HX.out.mono ?_
      rintro e w5 ⟨rfl, r5, t5⟩
      have bx5 := BX4.out.same (t5.mod.block _ BX4.out.lt (fun e => by
        rcases e with e | e
        · omega
        · exact (Hsl2.out _ (Or.inr rfl)).2 e))
      have z5 : ZArg w5 (some ⟨w2.heap.size, 0, none⟩) 1 [(n : Int) + (size t : Int) - 1] := ⟨rfl, fun i hi => by
        obtain ⟨a, ea, ca⟩ := HZ4.out.2 i hi
        cases ea
        refine ⟨_, rfl, t5.mod.cell ca ?_⟩
        rw [add_block]
        rintro (e | e)
        · simp only at e; omega
        · exact Nat.lt_irrefl _ (Hkb.out _ e)⟩
      have HA := Lib.hid (add_any (⟨k, s, 0, none, 0, 0, some ⟨w2.heap.size, 0, none⟩, 1, 1⟩ : Nv) ⟨k, s, 0, [], [(n : Int) + (size t : Int) - 1]⟩ w5 (r5.less (S' := S) (fun b hb => Or.inl hb) Hsg.out) ⟨rfl, rfl, rfl, KArg.nil _ _, z5, Nat.le_refl _, Nat.le_refl _⟩ (by
        rintro b (⟨a, e, -, -⟩ | ⟨a, e, -, rfl⟩)
        · cases e
        · cases e
          exact ⟨fun hs => by have := (Hsl.out _ hs).1; simp only at this; omega, fun hb => Nat.lt_irrefl _ (Hkb.out _ hb)⟩) (by omega))
      have T5 := Lib.hid (T4.out.trans t5)
      have y0 := bx5.k
      have y1 := bx5.s
      have y2 := bx5.i
      have y3 := bx5.ks
      have y4 := bx5.js
      unfold nodV at HA
      dsimp only at HA
      clear r5 t5 bx5 z5 HX d4 g4
      go_wp2_with fail
      refine HA.out.mono ?_
      rintro e w6 ⟨rfl, o6, c6, r6, t6⟩
      have R6 := Lib.hid r6
      have T6 := Lib.hid (T5.out.trans t6)
      clear r6 t6
      go_wp2_with fail
      go_ret
      rw [endR_y Hb.out, tail_at]
      refine EPost.mk (p := p) (q := q) (p' := p2 + 1) (t := .node k s 0 [] (.cons t .nil)) (o' := o6) (c' := c6) (by rw [size_one] <;> omega) ?_ T6.out (by omega) (by rw [size_one]; omega)
      rw [flat_one, size_one, ← List.append_assoc, show n + (size t + 1) = n + size t + 1 by omega]
      exact R6.out
end Syn
end Go.Proofs.YtinadbomebgfaaaGreatDoor

/-
  Layer 8: assignment and seesAssignment, as the program has them.
-/
namespace Go.Proofs.YtinadbomebgfaaaGreatDoor
open Go.RowKit Go.ChangeShapes Go.WideShapes
namespace Syn

set_option maxRecDepth 100000 in
set_option maxHeartbeats 4000000 in
theorem assign_any {x : Cx} {S : Nat → Prop} {p : Nat} {o : Option Addr} {n c : Nat} {L : List Nd} (k : Int) (w : World) (h : RS x S p o n c L w) (q : Nat) (hq : q ≤ p) (f : Nat) (hf : 20 * (x.T.length - p) ≤ f) :
    Calls Tryz.prog 158 #[.pointer (some ⟨x.g, 0, none⟩), .int .i64 k] w (EPost x S p q n o L (rdA f k (x.at p)) w) := by
  by_cases hk : (hd (x.at p)).1 = 1
  · have HN := Lib.hid (name_yes w h hk)
    have hp := kind_lt hk (by decide)
    have hnp := h.np
    cases hb : isT [61] (hd (x.at (p + 1))) with
    | false =>
      have hz : Hid (rdA f k (x.at p) = .bad (x.at (p + 1))) := Lib.hid (by rw [rdA, if_pos hk, tail_at, if_neg (by rw [hb]; decide)])
      rw [hz.out]
      obtain ⟨s, hs⟩ : ∃ s, (hd (x.at p)).2.1 = s := ⟨_, rfl⟩
      rw [hs] at HN
      clear h hk hs
      go_enter Tryz.func158, Tryz.ntmps158
      go_wp2_with fail
      refine HN.out.mono ?_
      rintro e w1 ⟨rfl, r1, u1⟩
      have B1 := Bel.alloc (Bel.refl w1) (.cells #[.int .i64 k, .string ⟨s.toArray⟩, .int .i64 0, .slice none 0 0, .slice none 0 0] 58)
      have T1 := Lib.hid (u1.bel B1)
      have HA := Lib.hid (expect_no [61] _ (r1.on B1) hb)
      clear r1 u1 B1
      go_wp2_with fail
      refine HA.out.mono ?_
      intro e w2 h2
      obtain ⟨rfl, H2⟩ := Stops.from T1.out h2
      have H2c := Lib.hid H2
      clear h2 H2
      go_wp2_with fail
      exact ⟨rfl, rfl, H2c.out⟩
    | true =>
      have hz : Hid (rdA f k (x.at p) = endR k (hd (x.at p)).2.1 (rdE f 1 (x.at (p + 2)))) := Lib.hid (by rw [rdA, if_pos hk, tail_at, if_pos hb, tail_at, rdN_end])
      rw [hz.out]
      obtain ⟨s, hs⟩ : ∃ s, (hd (x.at p)).2.1 = s := ⟨_, rfl⟩
      rw [hs] at HN ⊢
      have hp2 := isT_lt hb
      obtain ⟨X, hX⟩ : ∃ X, endR k s (rdE f 1 (x.at (p + 2))) = X := ⟨_, rfl⟩
      have HX := Lib.hid hX
      rw [hX]
      clear h hk hs hz hX
      go_enter Tryz.func158, Tryz.ntmps158
      go_wp2_with fail
      refine HN.out.mono ?_
      rintro e w1 ⟨rfl, r1, u1⟩
      have B1 := Bel.alloc (Bel.refl w1) (.cells #[.int .i64 k, .string ⟨s.toArray⟩, .int .i64 0, .slice none 0 0, .slice none 0 0] 58)
      have T1 := Lib.hid (u1.bel B1)
      have HA := Lib.hid (expect_yes [61] _ (r1.on B1) hb)
      have hbox := box5 w1 (.int .i64 k) (.string ⟨s.toArray⟩) (.int .i64 0) (.slice none 0 0) (.slice none 0 0) 58
      have hrb := fun b (hb : Blk o b) => (r1.own.blk hb).2
      have hg1 : x.g < w1.heap.size := cell_lt' r1.nod
      clear r1 u1 B1
      go_wp2_with fail
      refine HA.out.mono ?_
      rintro e w2 ⟨rfl, r2, u2⟩
      have T2 := Lib.hid (T1.out.trans u2)
      have hnF : ¬ (w1.heap.size = x.g ∨ Blk o w1.heap.size) := fun q => by
        rcases q with q | q
        · omega
        · exact Nat.lt_irrefl _ (hrb _ q)
      have y0 := u2.mod.cell hbox.1 hnF
      have y1 := u2.mod.cell hbox.2.1 hnF
      have y2 := u2.mod.cell hbox.2.2.1 hnF
      have y3 := u2.mod.cell hbox.2.2.2.1 hnF
      have y4 := u2.mod.cell hbox.2.2.2.2 hnF
      have HG := ending_any k s w2 r2 q (by omega) f (by omega)
      rw [HX.out] at HG
      have HG' := Lib.hid HG
      clear r2 u2 hbox hrb HG
      go_wp2_with fail
      refine HG'.out.mono ?_
      intro e w3 h3
      have h4 := EPost.from T2.out h3
      clear h3 y0 y1 y2 y3 y4
      cases X with
      | bad r =>
        obtain ⟨rfl, H4⟩ := h4
        have H4c := Lib.hid H4
        clear H4
        go_wp2_with fail
        exact ⟨rfl, rfl, H4c.out⟩
      | ok t r =>
        obtain ⟨rfl, p4, o4, c4, r4, t4, rfl, hp4, hs4⟩ := h4
        have R4 := Lib.hid r4
        have T4 := Lib.hid t4
        clear r4 t4
        go_wp2_with fail
        go_ret
        exact EPost.mk rfl R4.out T4.out (by omega) hs4
  · have HN := Lib.hid (name_no w h hk)
    have hz : Hid (rdA f k (x.at p) = .bad (x.at p)) := Lib.hid (by rw [rdA, if_neg hk])
    rw [hz.out]
    clear h hk hz
    go_enter Tryz.func158, Tryz.ntmps158
    go_wp2_with fail
    refine HN.out.mono ?_
    rintro e w1 ⟨rfl, H1⟩
    have H1c := Lib.hid H1
    clear H1
    go_wp2_with fail
    exact ⟨rfl, rfl, H1c.out⟩
set_option maxRecDepth 100000 in
set_option maxHeartbeats 4000000 in
theorem seesA_any {x : Cx} {p : Nat} (w : World) (h : TS x p w) :
    Calls Tryz.prog 159 #[.pointer (some ⟨x.g, 0, none⟩)] w fun e w' => e = .returned (.bool (setB (x.at p))) ∧ w' = w := by
  obtain ⟨m, d, c0, e1, e2, e3⟩ := h.tok
  obtain ⟨t0, t1, t2, t3⟩ := h.tks p h.pos
  have hN := fun hp : p + 1 ≤ x.T.length => h.tks (p + 1) hp
  unfold setB
  rw [tail_at, hd_at, hd_at]
  have hk := fun hk : (x.tok p).1.1 = 1 => kind_lt (x := x) (p := p) (k := 1) (by rw [hd_at]; exact hk) (by decide)
  generalize x.tok p = t at *
  generalize x.tok (p + 1) = u at *
  obtain ⟨⟨tk, tx, ti⟩, ta⟩ := t
  obtain ⟨⟨uk, ux, ui⟩, ua⟩ := u
  dsimp only at t0 t1 t2 t3 hk hN ⊢
  clear h
  by_cases h1 : tk = 1
  · subst h1
    have hp := hk rfl
    obtain ⟨v0, v1, v2, v3⟩ := hN hp
    dsimp only at v0 v1
    rw [show (p + 1) * 4 = p * 4 + 4 by omega] at v0 v1
    obtain ⟨m, rfl⟩ : ∃ m', m = m' + 1 := ⟨m - 1, by omega⟩
    obtain ⟨d, rfl⟩ : ∃ d', d = d' + 1 := ⟨d - 1, by omega⟩
    clear hN hk e1 e2 e3 v2 v3 hp
    generalize p * 4 = q at *
    by_cases h5 : uk = 5
    · subst h5
      go_enter Tryz.func159, Tryz.ntmps159
      go_wp2
      go_ret
      exact ⟨by simp, rfl⟩
    · have b5 : (uk == 5) = false := by simpa using h5
      go_enter Tryz.func159, Tryz.ntmps159
      go_wp2
      go_ret
      exact ⟨by simp [b5], rfl⟩
  · have b1 : (tk == 1) = false := by simpa using h1
    clear hN hk e1 e2 e3
    generalize p * 4 = q at *
    go_enter Tryz.func159, Tryz.ntmps159
    go_wp2
    go_ret
    exact ⟨by simp [b1], rfl⟩
end Syn
end Go.Proofs.YtinadbomebgfaaaGreatDoor

/-
  Layer 8: block, as the program has it. Written by tools/genSzF.py.
-/
namespace Go.Proofs.YtinadbomebgfaaaGreatDoor
open Go.RowKit Go.ChangeShapes Go.WideShapes
namespace Syn

/-- The beginning, without a box for the reader's pointer. -/
theorem gs_new0 {x : Cx} {S : Nat → Prop} {p : Nat} {o : Option Addr} {n c : Nat} {L : List Nd} {w : World} (h : RS x S p o n c L w) (k : Int) (s : Txt) (i : Int) (bn : Nat) (hb : w.heap.size ≤ bn) (W : World) (B : Bel w W) (hbx : NBox W bn k s i (.slice none 0 0) (.slice none 0 0)) :
    (⟨false, S, p, n, o, L, w, bn, bn, W.heap.size, k, s, i⟩ : Bx).Ok x ∧ GS x ⟨false, S, p, n, o, L, w, bn, bn, W.heap.size, k, s, i⟩ [] .nil p o c none 0 none 0 W := by
  have l1 := hbx.lt
  refine ⟨⟨fun e => (by cases e), B.size, ⟨hb, hb⟩, h.lt, h.sg, fun b hb => (h.sl b hb).1⟩, ⟨?_, RTo.of_bel B, hbx, fun e => (by cases e), World.ownsRow_nil _ _ _ _, World.ownsRow_nil _ _ _ _, fun b ⟨_, q⟩ => (by cases q), (by show sizes .nil + p ≤ p; rw [sizes]; omega), Nat.le_refl _, fun b q => (by rcases q with ⟨_, q⟩ | ⟨_, q⟩ <;> cases q), l1⟩⟩
  show RS x _ p o (n + sizes .nil) c (L ++ flats n .nil) W
  rw [sizes, flats, List.append_nil, Nat.add_zero]
  refine h.wide B (fun q hq => ?_) (fun q hq => ?_) (Or.inl h.sg)
  · rcases hq with q1 | rfl | rfl | ⟨_, q1⟩ | ⟨_, q1⟩
    · exact Or.inl q1
    · exact Or.inr hb
    · exact Or.inr hb
    · cases q1
    · cases q1
  · rcases hq with q1 | rfl | rfl | ⟨_, q1⟩ | ⟨_, q1⟩
    · exact Nat.lt_of_lt_of_le (h.sl q q1).1 B.size
    · exact l1
    · exact l1
    · cases q1
    · cases q1
theorem GS.later {x : Cx} {r : Bool} {S : Nat → Prop} {p0 p : Nat} {n : Nat} {o0 : Option Addr} {L : List Nd} {w0 : World} {bn rb kb : Nat} {k : Int} {s : Txt} {i : Int} {ks : List Txt} {o : Option Addr} {c : Nat} {qo : Option Addr} {qc : Nat} {ko : Option Addr} {kc : Nat} {w : World} (h : GS x ⟨r, S, p0, n, o0, L, w0, bn, rb, kb, k, s, i⟩ ks .nil p o c qo qc ko kc w) : GS x ⟨r, S, p, n, o0, L, w0, bn, rb, kb, k, s, i⟩ ks .nil p o c qo qc ko kc w :=
  ⟨h.rs, h.go, h.box, h.ptr, h.keys, h.kids, h.apart, by show sizes .nil + p ≤ p; rw [sizes]; omega, h.kb, h.nb, h.rl⟩
theorem rdZ_end {f : Nat} {a : Ts} {r : List Ck} (h : isT [125] (hd r) = true) : rdZ (f + 1) a r = .ok (.node 19 [] 0 [] a) r.tail := by rw [rdZ, if_pos h]
theorem rdZ_go {f : Nat} {a : Ts} {t : T} {r r' : List Ck} (h : isT [125] (hd r) = false) (hg : rdS f r = .ok t r') : rdZ (f + 1) a r = rdZ f (snoc a t) r' := by rw [rdZ, if_neg (by rw [h]; decide), hg]
theorem rdZ_bad {f : Nat} {a : Ts} {r r' : List Ck} (h : isT [125] (hd r) = false) (hg : rdS f r = .bad r') : rdZ (f + 1) a r = .bad r' := by rw [rdZ, if_neg (by rw [h]; decide), hg]
set_option maxRecDepth 100000 in
set_option maxHeartbeats 8000000 in
theorem block_any {x : Cx} {p : Nat} (hS : ∀ p', p < p' → Rf x 126 rdS 12 p') : Rf x 89 rdB 1 p := by
  intro f hf S o n c L w h
  obtain ⟨f, rfl⟩ : ∃ g, f = g + 1 := ⟨f - 1, by omega⟩
  have hnp := h.np
  obtain ⟨W, hW⟩ : ∃ W, w.alloc (.cells #[.int .i64 19, .string ⟨#[]⟩, .int .i64 0, .slice none 0 0, .slice none 0 0] 58) = W := ⟨_, rfl⟩
  have B : Bel w W := by rw [← hW]; exact Bel.alloc (Bel.refl w) _
  have hb5 : NBox W w.heap.size 19 [] 0 (.slice none 0 0) (.slice none 0 0) := by
    rw [← hW]
    obtain ⟨y0, y1, y2, y3, y4⟩ := box5 w (.int .i64 19) (.string ⟨#[]⟩) (.int .i64 0) (.slice none 0 0) (.slice none 0 0) 58
    exact ⟨y0, y1, y2, y3, y4, fun j => World.frozen?_alloc_new _ _ _ _⟩
  obtain ⟨ok0, g0⟩ := gs_new0 h 19 [] 0 w.heap.size (Nat.le_refl _) W B hb5
  have Hw := Lib.hid hW
  have hRW := g0.rs
  simp only [sizes, flats, List.append_nil, Nat.add_zero] at hRW
  cases hb : isT [123] (hd (x.at p)) with
  | false =>
    have HE := Lib.hid ((expect_no [123] W hRW hb).mono fun e w' (k : Stops x o W e w' (x.at p)) => Stops.from (RTo.of_bel B) k)
    have hz : Hid (rdB (f + 1) (x.at p) = .bad (x.at p)) := Lib.hid (by rw [rdB, if_neg (by rw [hb]; decide)])
    rw [hz.out]
    clear h hb hb5 g0 ok0 hRW B hW hz hS
    go_enter Tryz.func89, Tryz.ntmps89
    go_wp2_with fail
    rw [Hw.out]
    refine HE.out.mono ?_
    rintro e w2 ⟨rfl, H2⟩
    have H2c := Lib.hid H2
    clear H2
    go_wp2_with fail
    exact ⟨rfl, rfl, H2c.out⟩
  | true =>
    have hlt0 := isT_lt hb
    have HE := Lib.hid (expect_yes [123] W hRW hb)
    have hz : Hid (rdB (f + 1) (x.at p) = rdZ f .nil (x.at (p + 1))) := Lib.hid (by rw [rdB, if_pos hb, tail_at])
    rw [hz.out]
    obtain ⟨X, hX⟩ : ∃ X, rdZ f .nil (x.at (p + 1)) = X := ⟨_, rfl⟩
    have HX := Lib.hid hX
    rw [hX]
    have G0 := Lib.hid g0
    have OK0 := Lib.hid ok0
    have HSt := Lib.hid hS
    clear h hb hb5 g0 ok0 hRW B hW hz hS hX
    go_enter Tryz.func89, Tryz.ntmps89
    go_wp2_with fail
    rw [Hw.out]
    refine HE.out.mono ?_
    rintro e w2 ⟨rfl, r2, u2⟩
    have g2 := (G0.out.step OK0.out u2 (by simpa [sizes, flats] using r2) (Nat.le_succ p)).later
    obtain ⟨y, hy⟩ : ∃ y : Bx, (⟨false, S, p + 1, n, o, L, w, w.heap.size, w.heap.size, W.heap.size, 19, [], 0⟩ : Bx) = y := ⟨_, rfl⟩
    have ok : y.Ok x := by rw [← hy]; exact ⟨OK0.out.ne, OK0.out.kb, OK0.out.ge, OK0.out.xb, OK0.out.sg, OK0.out.sl⟩
    rw [hy] at g2
    have G2 := Lib.hid (show GSt x y [] .nil (p + 1) w2 from ⟨_, _, _, _, _, _, g2⟩)
    have OK := Lib.hid ok
    have ybn : Hid (y.bn = w.heap.size) := Lib.hid (by rw [← hy])
    have ypos : Hid (y.p = p + 1) := Lib.hid (by rw [← hy])
    have ynn : Hid (y.n = n) := Lib.hid (by rw [← hy])
    have HY := Lib.hid hy
    clear r2 u2 g2 G0 OK0 HE hy ok
    go_wp2_with fail
    go_loopw [] (fun wr => ∃ (a : Ts) (p' f' : Nat), Hid (GSt x y [] a p' wr) ∧ Hid (rdZ f' a (x.at p') = X) ∧ 20 * (x.T.length - p') + 13 ≤ f' ∧ p < p') (fun wr => left? x wr)
    case atStart => exact ⟨.nil, p + 1, f, G2, HX, by omega, by omega⟩
    case round =>
      obtain ⟨a, p', f', HG, HM, hf1, hpp⟩ := hrel
      rename World => wr
      clear G2 HX
      obtain ⟨o1, c1, qo, qc, ko, kc, g1⟩ := HG.out
      obtain ⟨f', rfl⟩ : ∃ g, f' = g + 1 := ⟨f' - 1, by omega⟩
      have hpos := g1.rs.ts.pos
      rw [left_is g1.rs.ts]
      cases h125 : isT [125] (hd (x.at p')) with
      | true =>
        have HA := Lib.hid (accept_yes [125] wr g1.rs h125)
        have hz2 : Hid (X = .ok (.node 19 [] 0 [] a) (x.at (p' + 1))) := Lib.hid (by rw [← HM.out, rdZ_end h125, tail_at])
        have Hg := Lib.hid g1
        clear g1 h125 HG HM
        go_wp2_with fail
        refine HA.out.mono ?_
        rintro e w3 ⟨rfl, r3, u3⟩
        have g3 := Hg.out.step OK.out u3 r3 (Nat.le_succ _)
        have HF := Lib.hid (fin_any w3 g3 OK.out (by rw [ynn.out, ypos.out]; omega))
        have e1 := g3.box.k
        have e2 := g3.box.s
        have e3 := g3.box.i
        have e4 := g3.box.ks
        have e5 := g3.box.js
        have hsz := g3.sz
        have hyy := HY.out
        subst hyy
        dsimp only at e1 e2 e3 e4 e5 hsz HF
        simp only [List.length_nil] at e4 HF
        clear g3 r3 u3 Hg HA
        go_wp2_with fail
        refine HF.out.mono ?_
        rintro e w4 ⟨rfl, o4, c4, r4, u4⟩
        have R4 := Lib.hid r4
        have T4 := Lib.hid u4
        clear r4 u4
        go_wp2_with fail
        go_ret
        rw [hz2.out]
        exact EPost.mk (p := p) (q := p) (p' := p' + 1) (t := .node 19 [] 0 [] a) (o' := o4) (c' := c4) (by rw [size] <;> omega) R4.out T4.out (by omega) (by rw [size]; omega)
      | false =>
        have HA := Lib.hid (accept_no [125] wr g1.rs h125)
        have Hg := Lib.hid g1
        have H125 := Lib.hid h125
        clear g1 h125 HG
        go_wp2_with fail
        refine HA.out.mono ?_
        rintro e w3 ⟨rfl, r3, u3⟩
        have g3 := Hg.out.step OK.out u3 r3 (Nat.le_refl _)
        have d4 := g3.box.js
        have f4 := g3.box.fz 4
        have hbn : y.bn < w3.heap.size := g3.box.lt
        rw [ybn.out] at d4 f4 hbn
        have ok := OK.out
        have hE := HSt.out p' (by omega) f' (by omega)
        clear r3 u3 HA Hg
        cases hg : rdS f' (x.at p') with
        | bad r =>
          have HC2 := Lib.hid (kid_bad ok g3 hE hg)
          have hz2 : Hid (X = .bad r) := Lib.hid (by rw [← HM.out, rdZ_bad H125.out hg])
          have hyo : Hid (y.o = o ∧ y.w = w) := Lib.hid (by rw [← HY.out]; exact ⟨rfl, rfl⟩)
          clear g3 ok hE hg
          go_upto_region 4 with (fail)
          refine wp_region_held_drew (S := fun W => W.cell? ⟨w.heap.size, 4, none⟩ = some (.slice ko (count a) kc)) (by kernel_rfl) d4 (fun hH => ?_)
          refine wpAnyH_take (i := 0) (v := ?_) rfl (by kernel_rfl) (by kernel_rfl) (by kernel_rfl) (fun _ _ _ h => h) (Or.inl ⟨by rfl, ?_⟩) (by assumption) ?_
          rotate_left 1
          · intro w hSw
            go_simp
            with_reducible rfl
          refine wpAnyH_take (i := 1) (v := ?_) rfl (by kernel_rfl) (by kernel_rfl) (by kernel_rfl) (fun _ _ _ h => h) (Or.inl ⟨by rfl, ?_⟩) (by assumption) ?_
          rotate_left 1
          · intro w hSw
            have q := hSw
            go_simp
            with_reducible rfl
          refine wpAnyH_take (i := 2) (v := ?_) rfl (by kernel_rfl) (by kernel_rfl) (by kernel_rfl) (fun _ _ _ h => h) (Or.inl ⟨by rfl, ?_⟩) (by assumption) ?_
          rotate_left 1
          · intro w hSw
            go_simp
            with_reducible rfl
          refine wpAnyH_ready (rs := [3]) (by kernel_rfl) (by simp) ?_
          refine AllReadyH.cons rfl (fun K hK => ?_) AllReadyH.nil
          go_simp
          refine HC2.out.mono ?_
          rintro e w9 ⟨rfl, hS⟩
          have hS2 := hS.out
          unfold GPn at hS2
          rw [hyo.out.1, hyo.out.2] at hS2
          refine ⟨rfl, ?_⟩
          show EPost x S p p n o L X w _ w9
          rw [hz2.out]
          exact hS2
        | ok t r =>
          obtain ⟨i0, hi0, hz0, hz1, hz2⟩ := info_parts info_int
          have Hi0 := Lib.hid hi0
          have Hz0 := Lib.hid hz0
          have Hz1 := Lib.hid hz1
          have Hz2 := Lib.hid hz2
          have hsm : count a ≤ 1000 := by have := sizes_le a; have := g3.rs.np; have := g3.rs.ts.pos; have := g3.rs.ts.len; omega
          have HC2 := Lib.hid (kid_ok ok g3 hE hg)
          unfold KidOk at HC2
          rw [ybn.out] at HC2
          have hM2 : Hid (rdZ f' (snoc a t) r = X) := Lib.hid (by rw [← HM.out, rdZ_go H125.out hg])
          have hml : Hid (count a + 1 ≤ maxLen) := Lib.hid (by unfold maxLen; omega)
          have hml2 : Hid ((count a + 1) * 8 ≤ 140737488355328) := Lib.hid (by omega)
          have hnw : Hid (∀ W' W'' : World, W''.heap[W'.heap.size]? = some (.cells #[.int .i64 ((y.n : Int) + (sizes a : Int) + (size t : Int) - 1)] 3) → ∀ j u, [.int .i64 ((y.n : Int) + (sizes a : Int) + (size t : Int) - 1)][j]? = some u → W''.cell? ((⟨W'.heap.size, 0, none⟩ : Addr).add j) = some u) := Lib.hid fun W' W'' hW' => World.news_of_block (cs := #[.int .i64 ((y.n : Int) + (sizes a : Int) + (size t : Int) - 1)]) (t := 3) (fr := (0, 0)) hW'
          clear hE hg g3 ok HM
          go_upto_region 4 with (fail)
          go_region_law (first | (refine step_append_lies _ (by rfl) _ _ _ (by rfl) y.kb 3 i0 _ 1 8 Tryz.underlying56 Hi0.out Hz0.out Hz1.out Hz2.out rfl (by omega) _ _ _ (by rfl) (hK1.out _ (by repeat (first | exact Bel.refl _ | refine Below.drew ?_ | refine Bel.alloc ?_ _))).1 ⟨w9.heap.size, 0, none⟩ 1 1 [.int .i64 ((y.n : Int) + (sizes a : Int) + (size t : Int) - 1)] (by rfl) (by rfl) (hnw.out w9 _ (heap_new w9 _)) (by simp [Value.oneCell']) (by omega) hml.out hml2.out (hK1.out _ (by repeat (first | exact Bel.refl _ | refine Below.drew ?_ | refine Bel.alloc ?_ _))).2 _ rfl ?_; intro gg cap w8 hown3 hgrow hat hlt; obtain ⟨d5, g5⟩ := hK2.out _ w8 (by repeat (first | exact Bel.refl _ | refine Below.drew ?_ | refine Bel.alloc ?_ _)) hgrow) | (go_simp; go_at_call 126; (with_reducible refine HC2.out.mono ?_); rintro e w9 ⟨rfl, d6, g6, _, hb2, hK1, hK2, hK3⟩))
          all_goals
            obtain ⟨p1, k1, k2, k3⟩ := hK3.out _ w8 gg cap (by repeat (first | exact Bel.refl _ | refine Below.drew ?_ | refine Bel.alloc ?_ _)) hown3 hgrow hat
            subst k2
            have K1 := Lib.hid k1
            obtain ⟨_, _, _, _, _, _, q⟩ := k1
            have hq := q.rs.ts.pos
            have ml := Lib.hid (left_is q.rs.ts)
            clear q
            go_wp2_with fail
            go_round
            case rel => exact ⟨snoc a t, p1, f', K1, hM2, by omega, by omega⟩
            case measure => rw [ml.out]; omega
end Syn
end Go.Proofs.YtinadbomebgfaaaGreatDoor

/-
  Layer 8: branch and statement, as the program has them. Written by tools/genSzG.py.
-/
namespace Go.Proofs.YtinadbomebgfaaaGreatDoor
open Go.RowKit Go.ChangeShapes Go.WideShapes
namespace Syn

theorem rdC_b1 {f : Nat} {k : Int} {r r' : List Ck} (h1 : rdE f 1 r = .bad r') : rdC (f + 1) k r = .bad r' := by rw [rdC, h1]
theorem rdC_b2 {f : Nat} {k : Int} {c : T} {r r1 r' : List Ck} (h1 : rdE f 1 r = .ok c r1) (h2 : rdB f r1 = .bad r') : rdC (f + 1) k r = .bad r' := by rw [rdC, h1]; simp only [h2]
theorem rdC_o {f : Nat} {k : Int} {c b : T} {r r1 r2 : List Ck} (h1 : rdE f 1 r = .ok c r1) (h2 : rdB f r1 = .ok b r2) (h3 : ¬ (k = 15 ∧ isT [101, 108, 115, 101] (hd r2) = true)) : rdC (f + 1) k r = .ok (.node k [] 0 [] (.cons c (.cons b .nil))) r2 := by rw [rdC, h1]; simp only [h2]; rw [if_neg h3]
theorem rdC_b3 {f : Nat} {k : Int} {c b : T} {r r1 r2 r' : List Ck} (h1 : rdE f 1 r = .ok c r1) (h2 : rdB f r1 = .ok b r2) (h3 : k = 15 ∧ isT [101, 108, 115, 101] (hd r2) = true) (h4 : rdB f r2.tail = .bad r') : rdC (f + 1) k r = .bad r' := by rw [rdC, h1]; simp only [h2]; rw [if_pos h3, h4]
theorem rdC_e {f : Nat} {k : Int} {c b d : T} {r r1 r2 r3 : List Ck} (h1 : rdE f 1 r = .ok c r1) (h2 : rdB f r1 = .ok b r2) (h3 : k = 15 ∧ isT [101, 108, 115, 101] (hd r2) = true) (h4 : rdB f r2.tail = .ok d r3) : rdC (f + 1) k r = .ok (.node k [] 0 [] (.cons c (.cons b (.cons d .nil)))) r3 := by rw [rdC, h1]; simp only [h2]; rw [if_pos h3, h4]
theorem roots_two (n : Nat) (c b : T) : roots n (.cons c (.cons b .nil)) = [(n : Int) + (size c : Int) - 1, (n : Int) + (size c : Int) + (size b : Int) - 1] := by
  have h1 := size_pos c
  have h2 := size_pos b
  rw [roots, roots, roots]
  congr 1
  · omega
  · congr 1; omega
theorem flats_two (n : Nat) (c b : T) : flats n (.cons c (.cons b .nil)) = flat n c ++ flat (n + size c) b := by rw [flats, flats, flats, List.append_nil]
theorem sizes_two (c b : T) : sizes (.cons c (.cons b .nil)) = size c + size b := by rw [sizes, sizes, sizes, Nat.add_zero]
set_option maxHeartbeats 1000000 in
/-- The beginning of a node with two parts that lie in a row of their own. -/
theorem gs_two {x : Cx} {S : Nat → Prop} {p p2 : Nat} {o o2 : Option Addr} {n c2 : Nat} {L : List Nd} {w w2 : World} {c b : T} (hsg : S x.g) (hsl : ∀ b, S b → b < w.heap.size) (hxb : x.g < x.base ∧ x.tb < x.base ∧ x.base ≤ w.heap.size) (r : RS x S p2 o2 (n + size c + size b) c2 (L ++ flat n c ++ flat (n + size c) b) w2) (t : RTo x.g o w o2 w2) (hs : size c + size b + p ≤ p2) (k : Int) (s : Txt) :
    (⟨false, S, p, n, o, L, w, w2.heap.size + 1, w2.heap.size + 1, w2.heap.size, k, s, 0⟩ : Bx).Ok x ∧ GS x ⟨false, S, p, n, o, L, w, w2.heap.size + 1, w2.heap.size + 1, w2.heap.size, k, s, 0⟩ [] (.cons c (.cons b .nil)) p2 o2 c2 none 0 (some ⟨w2.heap.size, 0, none⟩) 2 ((w2.alloc (.cells #[.int .i64 ((n : Int) + (size c : Int) - 1), .int .i64 ((n : Int) + (size c : Int) + (size b : Int) - 1)] 3)).alloc (.cells #[.int .i64 k, .string ⟨s.toArray⟩, .int .i64 0, .slice none 0 0, .slice (some ⟨w2.heap.size, 0, none⟩) 2 2] 58)) := by
  have e1 : (w2.alloc (.cells #[.int .i64 ((n : Int) + (size c : Int) - 1), .int .i64 ((n : Int) + (size c : Int) + (size b : Int) - 1)] 3)).heap.size = w2.heap.size + 1 := by show (w2.heap.push _).size = _; simp
  have hk := heap_new w2 (.cells #[.int .i64 ((n : Int) + (size c : Int) - 1), .int .i64 ((n : Int) + (size c : Int) + (size b : Int) - 1)] 3)
  obtain ⟨V, hV⟩ : ∃ V, w2.alloc (.cells #[.int .i64 ((n : Int) + (size c : Int) - 1), .int .i64 ((n : Int) + (size c : Int) + (size b : Int) - 1)] 3) = V := ⟨_, rfl⟩
  have B1 : Bel w2 V := by rw [← hV]; exact Bel.alloc (Bel.refl w2) _
  rw [hV] at e1 hk ⊢
  have B2 := Bel.alloc (Bel.refl V) (.cells #[.int .i64 k, .string ⟨s.toArray⟩, .int .i64 0, .slice none 0 0, .slice (some ⟨w2.heap.size, 0, none⟩) 2 2] 58)
  obtain ⟨y0, y1, y2, y3, y4⟩ := box5 V (.int .i64 k) (.string ⟨s.toArray⟩) (.int .i64 0) (.slice none 0 0) (.slice (some ⟨w2.heap.size, 0, none⟩) 2 2) 58
  have hfz : ∀ j, (V.alloc (.cells #[.int .i64 k, .string ⟨s.toArray⟩, .int .i64 0, .slice none 0 0, .slice (some ⟨w2.heap.size, 0, none⟩) 2 2] 58)).frozen? ⟨V.heap.size, j, none⟩ = false := fun j => World.frozen?_alloc_new _ _ _ _
  have hsz := alloc_lt V (.cells #[.int .i64 k, .string ⟨s.toArray⟩, .int .i64 0, .slice none 0 0, .slice (some ⟨w2.heap.size, 0, none⟩) 2 2] 58)
  obtain ⟨U, hU⟩ : ∃ U, V.alloc (.cells #[.int .i64 k, .string ⟨s.toArray⟩, .int .i64 0, .slice none 0 0, .slice (some ⟨w2.heap.size, 0, none⟩) 2 2] 58) = U := ⟨_, rfl⟩
  rw [hU] at B2 y0 y1 y2 y3 y4 hfz hsz ⊢
  rw [e1] at y0 y1 y2 y3 y4 hfz hsz
  have B := B1.trans B2
  have hkU : U.heap[w2.heap.size]? = some (.cells #[.int .i64 ((n : Int) + (size c : Int) - 1), .int .i64 ((n : Int) + (size c : Int) + (size b : Int) - 1)] 3) := (B2.block _ (by omega)).trans hk
  have hblk : ∀ q, Blk (some (⟨w2.heap.size, 0, none⟩ : Addr)) q → q = w2.heap.size := fun q ⟨_, z⟩ => by simp only [Option.some.injEq, Addr.mk.injEq] at z; exact z.1.symm
  have hw := t.mod.size
  refine ⟨⟨fun e => (by cases e), hw, ⟨by show w.heap.size ≤ w2.heap.size + 1; omega, by show w.heap.size ≤ w2.heap.size + 1; omega⟩, hxb, hsg, hsl⟩, ⟨?_, t.bel B, ⟨y0, y1, y2, y3, by show _ = some (Value.slice _ (count _) 2); rw [count, count, count]; exact y4, hfz⟩, fun e => (by cases e), World.ownsRow_nil _ _ _ _, ?_, fun b ⟨_, q⟩ => (by cases q), (by show sizes _ + p ≤ p2; rw [sizes_two]; exact hs), (by show w2.heap.size ≤ U.heap.size; omega), fun q hq => ?_, hsz⟩⟩
  · show RS x _ p2 o2 (n + sizes _) c2 (L ++ flats n _) U
    rw [sizes_two, flats_two, ← List.append_assoc, ← Nat.add_assoc]
    refine r.wide B (fun q hq => ?_) (fun q hq => ?_) (Or.inl hsg)
    · rcases hq with q1 | rfl | rfl | ⟨_, q1⟩ | q1
      · exact Or.inl q1
      · exact Or.inr (by show w2.heap.size ≤ w2.heap.size + 1; omega)
      · exact Or.inr (by show w2.heap.size ≤ w2.heap.size + 1; omega)
      · cases q1
      · exact Or.inr (by rw [hblk q q1]; exact Nat.le_refl _)
    · rcases hq with q1 | rfl | rfl | ⟨_, q1⟩ | q1
      · exact Nat.lt_of_lt_of_le (r.sl q q1).1 B.size
      · exact hsz
      · exact hsz
      · cases q1
      · rw [hblk q q1]; omega
  · show U.ownsRow w2.heap.size 3 1 (.slice (some ⟨w2.heap.size, 0, none⟩) (count _) 2) (count _) (encZ (roots n _))
    rw [roots_two, count, count, count]
    refine ⟨rfl, Or.inr ⟨w2.heap.size, 2, _, rfl, Nat.le_refl _, hkU, by decide, by unfold maxLen; decide, rfl, rfl⟩⟩
  · rcases hq with ⟨_, q1⟩ | q1
    · cases q1
    · have := hblk q q1
      show q ≠ w2.heap.size + 1 ∧ q ≠ w2.heap.size + 1
      omega
set_option maxRecDepth 100000 in
set_option maxHeartbeats 8000000 in
theorem branch_16 {x : Cx} {S : Nat → Prop} {p : Nat} {o : Option Addr} {n c : Nat} {L : List Nd} (w : World) (h : RS x S p o n c L w) (hn : n + 1 ≤ p) (q : Nat) (hq : q + 1 ≤ p) (hB : ∀ p', p < p' → Rf x 89 rdB 1 p') (f : Nat) (hf : 20 * (x.T.length - p) + 12 ≤ f) :
    Calls Tryz.prog 160 #[.pointer (some ⟨x.g, 0, none⟩), .int .i64 16] w (EPost x S p q n o L (rdC f 16 (x.at p)) w) := by
  obtain ⟨f, rfl⟩ : ∃ g, f = g + 1 := ⟨f - 1, by omega⟩
  have HE := Lib.hid (expr_all x p f (by omega) S o n c L w h)
  have HB := Lib.hid hB
  have Hsg := Lib.hid h.sg
  have Hsl : Hid (∀ b, S b → b < w.heap.size) := Lib.hid fun b hb => (h.sl b hb).1
  have Hxb := Lib.hid h.lt
  obtain ⟨X, hX⟩ : ∃ X, rdC (f + 1) 16 (x.at p) = X := ⟨_, rfl⟩
  have HX := Lib.hid hX
  rw [hX]
  clear h hB hX
  go_enter Tryz.func160, Tryz.ntmps160
  go_wp2_with fail
  refine HE.out.mono ?_
  intro e w1 h1
  clear HE
  cases hg1 : rdE f 1 (x.at p) with
  | bad r =>
    rw [hg1] at h1
    obtain ⟨rfl, H9⟩ := h1
    have hz : Hid (X = .bad r) := Lib.hid (by rw [← HX.out, rdC_b1 hg1])
    have H9c := Lib.hid H9
    clear H9
    go_wp2_with fail
    rw [hz.out]
    exact ⟨rfl, rfl, H9c.out⟩
  | ok cT r =>
    rw [hg1] at h1
    obtain ⟨rfl, p1, o1, c1, r1, t1, rfl, hp1, hs1⟩ := h1
    have HBk := Lib.hid (HB.out p1 hp1 f (by have := r1.ts.pos; omega) S _ _ _ _ w1 r1)
    have T1 := Lib.hid t1
    have q1 := r1.ts.pos
    have Hg1 := Lib.hid hg1
    clear r1 t1 hg1
    go_wp2_with fail
    refine HBk.out.mono ?_
    intro e w2 h2
    have h2 := EPost.from T1.out h2
    clear HBk
    cases hg2 : rdB f (x.at p1) with
    | bad r =>
      rw [hg2] at h2
      obtain ⟨rfl, H9⟩ := h2
      have hz : Hid (X = .bad r) := Lib.hid (by rw [← HX.out, rdC_b2 Hg1.out hg2])
      have H9c := Lib.hid H9
      clear H9
      go_wp2_with fail
      rw [hz.out]
      exact ⟨rfl, rfl, H9c.out⟩
    | ok bT r =>
      rw [hg2] at h2
      obtain ⟨rfl, p2, o2, c2, r2, t2, rfl, hp2, hs2⟩ := h2
      have Hg2 := Lib.hid hg2
      have q2 := r2.ts.pos
      obtain ⟨ok, g3⟩ := gs_two (p := p) Hsg.out Hsl.out Hxb.out r2 t2 (by omega) 16 []
      obtain ⟨W3, hW3⟩ : ∃ W3, (w2.alloc (.cells #[.int .i64 ((n : Int) + (size cT : Int) - 1), .int .i64 ((n : Int) + (size cT : Int) + (size bT : Int) - 1)] 3)).alloc (.cells #[.int .i64 16, .string ⟨#[]⟩, .int .i64 0, .slice none 0 0, .slice (some ⟨w2.heap.size, 0, none⟩) 2 2] 58) = W3 := ⟨_, rfl⟩
      have g3 : GS x ⟨false, S, p, n, o, L, w, w2.heap.size + 1, w2.heap.size + 1, w2.heap.size, 16, [], 0⟩ [] (.cons cT (.cons bT .nil)) p2 o2 c2 none 0 (some ⟨w2.heap.size, 0, none⟩) 2 W3 := by rw [← hW3]; exact g3
      obtain ⟨y, hy⟩ : ∃ y : Bx, (⟨false, S, p, n, o, L, w, w2.heap.size + 1, w2.heap.size + 1, w2.heap.size, 16, [], 0⟩ : Bx) = y := ⟨_, rfl⟩
      rw [hy] at g3 ok
      have HY := Lib.hid hy
      have OK := Lib.hid ok
      have G3 := Lib.hid g3
      have Hw := Lib.hid hW3
      clear r2 t2 hg2 hy ok g3 hW3
      have hz : Hid (X = .ok (.node 16 [] 0 [] (.cons cT (.cons bT .nil))) (x.at p2)) := Lib.hid (by rw [← HX.out, rdC_o Hg1.out Hg2.out (fun e => absurd e.1 (by decide))])
      have g4 := G3.out
      have HF := Lib.hid (fin_any W3 g4 OK.out (by rw [← HY.out]; exact hn))
      have e1 := g4.box.k
      have e2 := g4.box.s
      have e3 := g4.box.i
      have e4 := g4.box.ks
      have e5 := g4.box.js
      have hsz := g4.sz
      have hyy := HY.out
      subst hyy
      dsimp only at e1 e2 e3 e4 e5 hsz HF
      simp only [List.length_nil, count, Nat.zero_add, Nat.reduceAdd] at e4 e5 HF
      clear g4
      rw [← Hw.out] at e1 e2 e3 e4 e5
      go_wp2_with fail
      rw [Hw.out]
      refine HF.out.mono ?_
      rintro e w7 ⟨rfl, o7, c7, r7, u7⟩
      have R7 := Lib.hid r7
      have T7 := Lib.hid u7
      clear r7 u7
      go_wp2_with fail
      go_ret
      rw [hz.out]
      exact EPost.mk (p := p) (q := q) (p' := p2) (t := .node 16 [] 0 [] (.cons cT (.cons bT .nil))) (o' := o7) (c' := c7) (by rw [size] <;> omega) R7.out T7.out (by omega) (by rw [size]; omega)
set_option maxRecDepth 100000 in
set_option maxHeartbeats 8000000 in
theorem branch_15 {x : Cx} {S : Nat → Prop} {p : Nat} {o : Option Addr} {n c : Nat} {L : List Nd} (w : World) (h : RS x S p o n c L w) (hn : n + 1 ≤ p) (q : Nat) (hq : q + 1 ≤ p) (hB : ∀ p', p < p' → Rf x 89 rdB 1 p') (f : Nat) (hf : 20 * (x.T.length - p) + 12 ≤ f) :
    Calls Tryz.prog 160 #[.pointer (some ⟨x.g, 0, none⟩), .int .i64 15] w (EPost x S p q n o L (rdC f 15 (x.at p)) w) := by
  obtain ⟨f, rfl⟩ : ∃ g, f = g + 1 := ⟨f - 1, by omega⟩
  have HE := Lib.hid (expr_all x p f (by omega) S o n c L w h)
  have HB := Lib.hid hB
  have Hsg := Lib.hid h.sg
  have Hsl : Hid (∀ b, S b → b < w.heap.size) := Lib.hid fun b hb => (h.sl b hb).1
  have Hxb := Lib.hid h.lt
  obtain ⟨X, hX⟩ : ∃ X, rdC (f + 1) 15 (x.at p) = X := ⟨_, rfl⟩
  have HX := Lib.hid hX
  rw [hX]
  clear h hB hX
  go_enter Tryz.func160, Tryz.ntmps160
  go_wp2_with fail
  refine HE.out.mono ?_
  intro e w1 h1
  clear HE
  cases hg1 : rdE f 1 (x.at p) with
  | bad r =>
    rw [hg1] at h1
    obtain ⟨rfl, H9⟩ := h1
    have hz : Hid (X = .bad r) := Lib.hid (by rw [← HX.out, rdC_b1 hg1])
    have H9c := Lib.hid H9
    clear H9
    go_wp2_with fail
    rw [hz.out]
    exact ⟨rfl, rfl, H9c.out⟩
  | ok cT r =>
    rw [hg1] at h1
    obtain ⟨rfl, p1, o1, c1, r1, t1, rfl, hp1, hs1⟩ := h1
    have HBk := Lib.hid (HB.out p1 hp1 f (by have := r1.ts.pos; omega) S _ _ _ _ w1 r1)
    have T1 := Lib.hid t1
    have q1 := r1.ts.pos
    have Hg1 := Lib.hid hg1
    clear r1 t1 hg1
    go_wp2_with fail
    refine HBk.out.mono ?_
    intro e w2 h2
    have h2 := EPost.from T1.out h2
    clear HBk
    cases hg2 : rdB f (x.at p1) with
    | bad r =>
      rw [hg2] at h2
      obtain ⟨rfl, H9⟩ := h2
      have hz : Hid (X = .bad r) := Lib.hid (by rw [← HX.out, rdC_b2 Hg1.out hg2])
      have H9c := Lib.hid H9
      clear H9
      go_wp2_with fail
      rw [hz.out]
      exact ⟨rfl, rfl, H9c.out⟩
    | ok bT r =>
      rw [hg2] at h2
      obtain ⟨rfl, p2, o2, c2, r2, t2, rfl, hp2, hs2⟩ := h2
      have Hg2 := Lib.hid hg2
      have q2 := r2.ts.pos
      obtain ⟨ok, g3⟩ := gs_two (p := p) Hsg.out Hsl.out Hxb.out r2 t2 (by omega) 15 []
      obtain ⟨W3, hW3⟩ : ∃ W3, (w2.alloc (.cells #[.int .i64 ((n : Int) + (size cT : Int) - 1), .int .i64 ((n : Int) + (size cT : Int) + (size bT : Int) - 1)] 3)).alloc (.cells #[.int .i64 15, .string ⟨#[]⟩, .int .i64 0, .slice none 0 0, .slice (some ⟨w2.heap.size, 0, none⟩) 2 2] 58) = W3 := ⟨_, rfl⟩
      have g3 : GS x ⟨false, S, p, n, o, L, w, w2.heap.size + 1, w2.heap.size + 1, w2.heap.size, 15, [], 0⟩ [] (.cons cT (.cons bT .nil)) p2 o2 c2 none 0 (some ⟨w2.heap.size, 0, none⟩) 2 W3 := by rw [← hW3]; exact g3
      obtain ⟨y, hy⟩ : ∃ y : Bx, (⟨false, S, p, n, o, L, w, w2.heap.size + 1, w2.heap.size + 1, w2.heap.size, 15, [], 0⟩ : Bx) = y := ⟨_, rfl⟩
      rw [hy] at g3 ok
      have HY := Lib.hid hy
      have OK := Lib.hid ok
      have G3 := Lib.hid g3
      have Hw := Lib.hid hW3
      clear r2 t2 hg2 hy ok g3 hW3
      cases hb : isT [101, 108, 115, 101] (hd (x.at p2)) with
      | false =>
        have hz : Hid (X = .ok (.node 15 [] 0 [] (.cons cT (.cons bT .nil))) (x.at p2)) := Lib.hid (by rw [← HX.out, rdC_o Hg1.out Hg2.out (by rw [hb]; decide)])
        have HA := Lib.hid (accept_no [101, 108, 115, 101] W3 G3.out.rs hb)
        clear hb
        go_wp2_with fail
        rw [Hw.out]
        refine HA.out.mono ?_
        rintro e w5 ⟨rfl, r5, u5⟩
        have g4 := G3.out.step OK.out u5 r5 (Nat.le_refl _)
        clear r5 u5 HA G3 Hw
        have HF := Lib.hid (fin_any w5 g4 OK.out (by rw [← HY.out]; exact hn))
        have e1 := g4.box.k
        have e2 := g4.box.s
        have e3 := g4.box.i
        have e4 := g4.box.ks
        have e5 := g4.box.js
        have hsz := g4.sz
        have hyy := HY.out
        subst hyy
        dsimp only at e1 e2 e3 e4 e5 hsz HF
        simp only [List.length_nil, count, Nat.zero_add, Nat.reduceAdd] at e4 e5 HF
        clear g4
        go_wp2_with fail
        refine HF.out.mono ?_
        rintro e w7 ⟨rfl, o7, c7, r7, u7⟩
        have R7 := Lib.hid r7
        have T7 := Lib.hid u7
        clear r7 u7
        go_wp2_with fail
        go_ret
        rw [hz.out]
        exact EPost.mk (p := p) (q := q) (p' := p2) (t := .node 15 [] 0 [] (.cons cT (.cons bT .nil))) (o' := o7) (c' := c7) (by rw [size] <;> omega) R7.out T7.out (by omega) (by rw [size]; omega)
      | true =>
        have HA := Lib.hid (accept_yes [101, 108, 115, 101] W3 G3.out.rs hb)
        have hlt := isT_lt hb
        have Hb := Lib.hid hb
        clear hb
        go_wp2_with fail
        rw [Hw.out]
        refine HA.out.mono ?_
        rintro e w5 ⟨rfl, r5, u5⟩
        have g5 := G3.out.step OK.out u5 r5 (Nat.le_succ _)
        clear r5 u5 HA G3 Hw
        have ybn : Hid (y.bn = w2.heap.size + 1) := Lib.hid (by rw [← HY.out])
        have d4 := g5.box.js
        have f4 := g5.box.fz 4
        have hbn : y.bn < w5.heap.size := g5.box.lt
        rw [ybn.out] at d4 f4 hbn
        have ok := OK.out
        have hE := HB.out (p2 + 1) (by omega) f (by omega)
        cases hg : rdB f (x.at (p2 + 1)) with
        | bad r =>
          have HC2 := Lib.hid (kid_bad ok g5 hE hg)
          have hz2 : Hid (X = .bad r) := Lib.hid (by rw [← HX.out, rdC_b3 Hg1.out Hg2.out ⟨rfl, Hb.out⟩ (by rw [tail_at]; exact hg)])
          have hyo : Hid (y.o = o ∧ y.w = w) := Lib.hid (by rw [← HY.out]; exact ⟨rfl, rfl⟩)
          simp only [count, Nat.zero_add, Nat.reduceAdd] at d4
          clear g5 ok hE hg
          go_upto_region 4 with (fail)
          refine wp_region_held_drew (S := fun W => W.cell? ⟨w2.heap.size + 1, 4, none⟩ = some (.slice (some ⟨w2.heap.size, 0, none⟩) 2 2)) (by kernel_rfl) d4 (fun hH => ?_)
          refine wpAnyH_take (i := 0) (v := ?_) rfl (by kernel_rfl) (by kernel_rfl) (by kernel_rfl) (fun _ _ _ h => h) (Or.inl ⟨by rfl, ?_⟩) (by assumption) ?_
          rotate_left 1
          · intro w hSw
            go_simp
            with_reducible rfl
          refine wpAnyH_take (i := 1) (v := ?_) rfl (by kernel_rfl) (by kernel_rfl) (by kernel_rfl) (fun _ _ _ h => h) (Or.inl ⟨by rfl, ?_⟩) (by assumption) ?_
          rotate_left 1
          · intro w hSw
            have q := hSw
            go_simp
            with_reducible rfl
          refine wpAnyH_take (i := 2) (v := ?_) rfl (by kernel_rfl) (by kernel_rfl) (by kernel_rfl) (fun _ _ _ h => h) (Or.inl ⟨by rfl, ?_⟩) (by assumption) ?_
          rotate_left 1
          · intro w hSw
            go_simp
            with_reducible rfl
          refine wpAnyH_ready (rs := [3]) (by kernel_rfl) (by simp) ?_
          refine AllReadyH.cons rfl (fun K hK => ?_) AllReadyH.nil
          go_simp
          refine HC2.out.mono ?_
          rintro e w9 ⟨rfl, hS⟩
          have hS2 := hS.out
          unfold GPn at hS2
          rw [hyo.out.1, hyo.out.2] at hS2
          refine ⟨rfl, ?_⟩
          show EPost x S p q n o L X w _ w9
          rw [hz2.out]
          exact hS2
        | ok t r =>
          obtain ⟨i0, hi0, hz0, hz1, hz2⟩ := info_parts info_int
          have Hi0 := Lib.hid hi0
          have Hz0 := Lib.hid hz0
          have Hz1 := Lib.hid hz1
          have Hz2 := Lib.hid hz2
          have HC2 := Lib.hid (kid_ok ok g5 hE hg)
          unfold KidOk at HC2
          rw [ybn.out] at HC2
          simp only [count, Nat.zero_add, Nat.reduceAdd] at HC2 d4
          have hz : Hid (X = .ok (.node 15 [] 0 [] (.cons cT (.cons bT (.cons t .nil)))) r) := Lib.hid (by rw [← HX.out, rdC_e Hg1.out Hg2.out ⟨rfl, Hb.out⟩ (by rw [tail_at]; exact hg)])
          have hml : Hid (2 + 1 ≤ maxLen) := Lib.hid (by unfold maxLen; omega)
          have hml2 : Hid ((2 + 1) * 8 ≤ 140737488355328) := Lib.hid (by omega)
          obtain ⟨a, ha⟩ : ∃ a, Ts.cons cT (.cons bT .nil) = a := ⟨_, rfl⟩
          rw [ha] at HC2
          have Ha := Lib.hid ha
          have hnw : Hid (∀ W' W'' : World, W''.heap[W'.heap.size]? = some (.cells #[.int .i64 ((y.n : Int) + (sizes a : Int) + (size t : Int) - 1)] 3) → ∀ j u, [.int .i64 ((y.n : Int) + (sizes a : Int) + (size t : Int) - 1)][j]? = some u → W''.cell? ((⟨W'.heap.size, 0, none⟩ : Addr).add j) = some u) := Lib.hid fun W' W'' hW' => World.news_of_block (cs := #[.int .i64 ((y.n : Int) + (sizes a : Int) + (size t : Int) - 1)]) (t := 3) (fr := (0, 0)) hW'
          clear hE hg g5 ok ha
          go_upto_region 4 with (fail)
          go_cut [] (fun wx => Hid (∃ p1, GSt x y [] (snoc a t) p1 wx ∧ r = x.at p1 ∧ p2 + 1 < p1))
          case first =>
            go_region_law (first | (refine step_append_lies _ (by rfl) _ _ _ (by rfl) y.kb 3 i0 _ 1 8 Tryz.underlying56 Hi0.out Hz0.out Hz1.out Hz2.out rfl (by omega) _ _ _ (by rfl) (hK1.out _ (by repeat (first | exact Bel.refl _ | refine Below.drew ?_ | refine Bel.alloc ?_ _))).1 ⟨w9.heap.size, 0, none⟩ 1 1 [.int .i64 ((y.n : Int) + (sizes a : Int) + (size t : Int) - 1)] (by rfl) (by rfl) (hnw.out w9 _ (heap_new w9 _)) (by simp [Value.oneCell']) (by omega) hml.out hml2.out (hK1.out _ (by repeat (first | exact Bel.refl _ | refine Below.drew ?_ | refine Bel.alloc ?_ _))).2 _ rfl ?_; intro gg cap w8 hown3 hgrow hat hlt'; obtain ⟨d5, g5⟩ := hK2.out _ w8 (by repeat (first | exact Bel.refl _ | refine Below.drew ?_ | refine Bel.alloc ?_ _)) hgrow) | (go_simp; go_at_call 89; (with_reducible refine HC2.out.mono ?_); rintro e w9 ⟨rfl, d6, g6, _, hb2, hK1, hK2, hK3⟩))
            all_goals
              have k1 := hK3.out _ w8 gg cap (by repeat (first | exact Bel.refl _ | refine Below.drew ?_ | refine Bel.alloc ?_ _)) hown3 hgrow hat
              go_wp2_with fail
              go_meet
              exact Lib.hid k1
          case rest =>
            obtain ⟨p4, ⟨o4, c4, qo4, qc4, ko4, kc4, g4⟩, rfl, hp4⟩ := hcut.out
            have ha := Ha.out
            subst ha
            have hp4T := g4.rs.ts.pos
            clear d4 f4 hbn HC2 hnw
            have HF := Lib.hid (fin_any wc g4 OK.out (by rw [← HY.out]; exact hn))
            have e1 := g4.box.k
            have e2 := g4.box.s
            have e3 := g4.box.i
            have e4 := g4.box.ks
            have e5 := g4.box.js
            have hsz := g4.sz
            rw [show sizes (snoc (.cons cT (.cons bT .nil)) t) = sizes (.cons cT (.cons bT (.cons t .nil))) from rfl] at hsz
            have hyy := HY.out
            subst hyy
            dsimp only at e1 e2 e3 e4 e5 hsz HF
            simp only [List.length_nil, snoc, app, count, Nat.zero_add, Nat.reduceAdd] at e4 e5 HF
            clear g4
            go_wp2_with fail
            refine HF.out.mono ?_
            rintro e w7 ⟨rfl, o7, c7, r7, u7⟩
            have R7 := Lib.hid r7
            have T7 := Lib.hid u7
            clear r7 u7
            go_wp2_with fail
            go_ret
            rw [hz.out]
            exact EPost.mk (p := p) (q := q) (p' := p4) (t := .node 15 [] 0 [] (.cons cT (.cons bT (.cons t .nil)))) (o' := o7) (c' := c7) (by rw [size] <;> omega) R7.out T7.out (by omega) (by rw [size]; omega)
end Syn
end Go.Proofs.YtinadbomebgfaaaGreatDoor
