/-
  Layer 8, texts merged: SzF, SzG, SzH. For every argument within the bounds that each theorem names.
-/
import Derived.Test.YtmifookckpelaaaGreatDoorMF4

/-
 Layer 8: block, as the program has it. Written by tools/genSzF.py.
-/
namespace Go.Proofs.YtmifookckpelaaaGreatDoor
open Go.RowKit Go.ChangeShapes Go.WideShapes
namespace Syn

/-- The beginning, without a box for the reader's pointer. -/
theorem gs_new0 {x : Cx} {S : Nat → Prop} {p : Nat} {o : Option Addr} {n c : Nat} {L : List Nd} {w : World} (h : RS x S p o n c L w) (k : Int) (s : Txt) (i : Int) (bn : Nat) (hb : w.heap.size ≤ bn) (W : World) (B : Bel w W) (hbx : NBox W bn k s i (.slice none 0 0) (.slice none 0 0)) :
  (⟨false, S, p, n, o, L, w, bn, bn, W.heap.size, k, s, i⟩ : Bx).Ok x ∧ GS x ⟨false, S, p, n, o, L, w, bn, bn, W.heap.size, k, s, i⟩ [] .nil p o c none 0 none 0 W := by
 have l1 := hbx.lt
 refine ⟨⟨fun e => (by cases e), B.size, ⟨hb, hb⟩, h.lt, h.sg, fun b hb => (h.sl b hb).1⟩, ⟨?_, RTo.of_bel B, hbx, fun e => (by cases e), World.ownsRow_nil _ _ _ _, World.ownsRow_nil _ _ _ _, fun b ⟨_, q⟩ => (by cases q), (by show sizes .nil + p ≤ p; rw [sizes]; omega), Nat.le_refl _, fun b q => (by rcases q with ⟨_, q⟩ | ⟨_, q⟩ <;> cases q), l1⟩⟩
 show RS x _ p o (n + sizes .nil) c (L ++ flats n .nil) W
 rw [sizes, flats, List.append_nil, Nat.add_zero]
 refine h.wide B (fun q hq => ?_) (fun q hq => ?_) (Or.inl h.sg)
 ·rcases hq with q1 | rfl | rfl | ⟨_, q1⟩ | ⟨_, q1⟩
  ·exact Or.inl q1
  ·exact Or.inr hb
  ·exact Or.inr hb
  ·cases q1
  ·cases q1
 ·rcases hq with q1 | rfl | rfl | ⟨_, q1⟩ | ⟨_, q1⟩
  ·exact Nat.lt_of_lt_of_le (h.sl q q1).1 B.size
  ·exact l1
  ·exact l1
  ·cases q1
  ·cases q1
theorem GS.later {x : Cx} {r : Bool} {S : Nat → Prop} {p0 p : Nat} {n : Nat} {o0 : Option Addr} {L : List Nd} {w0 : World} {bn rb kb : Nat} {k : Int} {s : Txt} {i : Int} {ks : List Txt} {o : Option Addr} {c : Nat} {qo : Option Addr} {qc : Nat} {ko : Option Addr} {kc : Nat} {w : World} (h : GS x ⟨r, S, p0, n, o0, L, w0, bn, rb, kb, k, s, i⟩ ks .nil p o c qo qc ko kc w) : GS x ⟨r, S, p, n, o0, L, w0, bn, rb, kb, k, s, i⟩ ks .nil p o c qo qc ko kc w :=
 ⟨h.rs, h.go, h.box, h.ptr, h.keys, h.kids, h.apart, by show sizes .nil + p ≤ p; rw [sizes]; omega, h.kb, h.nb, h.rl⟩
theorem rdZ_end {f : Nat} {a : Ts} {r : List Ck} (h : isT [125] (hd r) = true) : rdZ (f + 1) a r = .ok (.node 19 [] 0 [] a) r.tail := by rw [rdZ, if_pos h]
theorem rdZ_go {f : Nat} {a : Ts} {t : T} {r r' : List Ck} (h : isT [125] (hd r) = false) (hg : rdS f r = .ok t r') : rdZ (f + 1) a r = rdZ f (snoc a t) r' := by rw [rdZ, if_neg (by rw [h]; decide), hg]
theorem rdZ_bad {f : Nat} {a : Ts} {r r' : List Ck} (h : isT [125] (hd r) = false) (hg : rdS f r = .bad r') : rdZ (f + 1) a r = .bad r' := by rw [rdZ, if_neg (by rw [h]; decide), hg]
set_option maxRecDepth 100000 in
set_option maxHeartbeats 8000000 in
theorem block_any {x : Cx} {p : Nat} (hS : ∀ p', p < p' → Rf x 190 rdS 12 p') : Rf x 137 rdB 1 p := by
 intro f hf S o n c L w h
 obtain ⟨f, rfl⟩ : ∃ g, f = g + 1 := ⟨f - 1, by omega⟩
 have hnp := h.np
 obtain ⟨W, hW⟩ : ∃ W, w.alloc (.cells #[.int .i64 19, .string ⟨#[]⟩, .int .i64 0, .slice none 0 0, .slice none 0 0] 60) = W := ⟨_, rfl⟩
 have B : Bel w W := by rw [← hW]; exact Bel.alloc (Bel.refl w) _
 have hb5 : NBox W w.heap.size 19 [] 0 (.slice none 0 0) (.slice none 0 0) := by
  rw [← hW]
  obtain ⟨y0, y1, y2, y3, y4⟩ := box5 w (.int .i64 19) (.string ⟨#[]⟩) (.int .i64 0) (.slice none 0 0) (.slice none 0 0) 60
  exact ⟨y0, y1, y2, y3, y4, fun j => World.frozen?_alloc_new _ _ _ _⟩
 obtain ⟨ok0, g0⟩ := gs_new0 h 19 [] 0 w.heap.size (Nat.le_refl _) W B hb5
 have Hw := Lib.hid hW
 have hRW := g0.rs
 simp only [sizes, flats, List.append_nil, Nat.add_zero] at hRW
 cases hb : isT [123] (hd (x.at p)) with
 | false =>
  have HE := Lib.hid ((expect_no [123] W hRW hb).mono fun e w' (k : Stops x o W e w' (x.at p)) => Stops.from (RTo.of_bel B) k)
  have hz : Hid (rdB (f + 1) (x.at p) = .bad (x.at p)) := Lib.hid (by rw [rdB, if_neg (by rw [hb]; decide)])
  rw [hz.out]
  clear h hb hb5 g0 ok0 hRW B hW hz hS
  go_enter Tryz.func137, Tryz.ntmps137
  go_wp2_with fail
  rw [Hw.out]
  refine HE.out.mono ?_
  rintro e w2 ⟨rfl, H2⟩
  have H2c := Lib.hid H2
  clear H2
  go_wp2_with fail
  exact ⟨rfl, rfl, H2c.out⟩
 | true =>
  have hlt0 := isT_lt hb
  have HE := Lib.hid (expect_yes [123] W hRW hb)
  have hz : Hid (rdB (f + 1) (x.at p) = rdZ f .nil (x.at (p + 1))) := Lib.hid (by rw [rdB, if_pos hb, tail_at])
  rw [hz.out]
  obtain ⟨X, hX⟩ : ∃ X, rdZ f .nil (x.at (p + 1)) = X := ⟨_, rfl⟩
  have HX := Lib.hid hX
  rw [hX]
  have G0 := Lib.hid g0
  have OK0 := Lib.hid ok0
  have HSt := Lib.hid hS
  clear h hb hb5 g0 ok0 hRW B hW hz hS hX
  go_enter Tryz.func137, Tryz.ntmps137
  go_wp2_with fail
  rw [Hw.out]
  refine HE.out.mono ?_
  rintro e w2 ⟨rfl, r2, u2⟩
  have g2 := (G0.out.step OK0.out u2 (by simpa [sizes, flats] using r2) (Nat.le_succ p)).later
  obtain ⟨y, hy⟩ : ∃ y : Bx, (⟨false, S, p + 1, n, o, L, w, w.heap.size, w.heap.size, W.heap.size, 19, [], 0⟩ : Bx) = y := ⟨_, rfl⟩
  have ok : y.Ok x := by rw [← hy]; exact ⟨OK0.out.ne, OK0.out.kb, OK0.out.ge, OK0.out.xb, OK0.out.sg, OK0.out.sl⟩
  rw [hy] at g2
  have G2 := Lib.hid (show GSt x y [] .nil (p + 1) w2 from ⟨_, _, _, _, _, _, g2⟩)
  have OK := Lib.hid ok
  have ybn : Hid (y.bn = w.heap.size) := Lib.hid (by rw [← hy])
  have ypos : Hid (y.p = p + 1) := Lib.hid (by rw [← hy])
  have ynn : Hid (y.n = n) := Lib.hid (by rw [← hy])
  have HY := Lib.hid hy
  clear r2 u2 g2 G0 OK0 HE hy ok
  go_wp2_with fail
  go_loopw [] (fun wr => ∃ (a : Ts) (p' f' : Nat), Hid (GSt x y [] a p' wr) ∧ Hid (rdZ f' a (x.at p') = X) ∧ 20 * (x.T.length - p') + 13 ≤ f' ∧ p < p') (fun wr => left? x wr)
  case atStart => exact ⟨.nil, p + 1, f, G2, HX, by omega, by omega⟩
  case round =>
   obtain ⟨a, p', f', HG, HM, hf1, hpp⟩ := hrel
   rename World => wr
   clear G2 HX
   obtain ⟨o1, c1, qo, qc, ko, kc, g1⟩ := HG.out
   obtain ⟨f', rfl⟩ : ∃ g, f' = g + 1 := ⟨f' - 1, by omega⟩
   have hpos := g1.rs.ts.pos
   rw [left_is g1.rs.ts]
   cases h125 : isT [125] (hd (x.at p')) with
   | true =>
    have HA := Lib.hid (accept_yes [125] wr g1.rs h125)
    have hz2 : Hid (X = .ok (.node 19 [] 0 [] a) (x.at (p' + 1))) := Lib.hid (by rw [← HM.out, rdZ_end h125, tail_at])
    have Hg := Lib.hid g1
    clear g1 h125 HG HM
    go_wp2_with fail
    refine HA.out.mono ?_
    rintro e w3 ⟨rfl, r3, u3⟩
    have g3 := Hg.out.step OK.out u3 r3 (Nat.le_succ _)
    have HF := Lib.hid (fin_any w3 g3 OK.out (by rw [ynn.out, ypos.out]; omega))
    have e1 := g3.box.k
    have e2 := g3.box.s
    have e3 := g3.box.i
    have e4 := g3.box.ks
    have e5 := g3.box.js
    have hsz := g3.sz
    have hyy := HY.out
    subst hyy
    dsimp only at e1 e2 e3 e4 e5 hsz HF
    simp only [List.length_nil] at e4 HF
    clear g3 r3 u3 Hg HA
    go_wp2_with fail
    refine HF.out.mono ?_
    rintro e w4 ⟨rfl, o4, c4, r4, u4⟩
    have R4 := Lib.hid r4
    have T4 := Lib.hid u4
    clear r4 u4
    go_wp2_with fail
    go_ret
    rw [hz2.out]
    exact EPost.mk (p := p) (q := p) (p' := p' + 1) (t := .node 19 [] 0 [] a) (o' := o4) (c' := c4) (by rw [size] <;> omega) R4.out T4.out (by omega) (by rw [size]; omega)
   | false =>
    have HA := Lib.hid (accept_no [125] wr g1.rs h125)
    have Hg := Lib.hid g1
    have H125 := Lib.hid h125
    clear g1 h125 HG
    go_wp2_with fail
    refine HA.out.mono ?_
    rintro e w3 ⟨rfl, r3, u3⟩
    have g3 := Hg.out.step OK.out u3 r3 (Nat.le_refl _)
    have d4 := g3.box.js
    have f4 := g3.box.fz 4
    have hbn : y.bn < w3.heap.size := g3.box.lt
    rw [ybn.out] at d4 f4 hbn
    have ok := OK.out
    have hE := HSt.out p' (by omega) f' (by omega)
    clear r3 u3 HA Hg
    cases hg : rdS f' (x.at p') with
    | bad r =>
     have HC2 := Lib.hid (kid_bad ok g3 hE hg)
     have hz2 : Hid (X = .bad r) := Lib.hid (by rw [← HM.out, rdZ_bad H125.out hg])
     have hyo : Hid (y.o = o ∧ y.w = w) := Lib.hid (by rw [← HY.out]; exact ⟨rfl, rfl⟩)
     clear g3 ok hE hg
     go_upto_region 4 with (fail)
     refine wp_region_held_drew (S := fun W => W.cell? ⟨w.heap.size, 4, none⟩ = some (.slice ko (count a) kc)) (by kernel_rfl) d4 (fun hH => ?_)
     refine wpAnyH_take (i := 0) (v := ?_) rfl (by kernel_rfl) (by kernel_rfl) (by kernel_rfl) (fun _ _ _ h => h) (Or.inl ⟨by rfl, ?_⟩) (by assumption) ?_
     rotate_left 1
     ·intro w hSw
      go_simp
      with_reducible rfl
     refine wpAnyH_take (i := 1) (v := ?_) rfl (by kernel_rfl) (by kernel_rfl) (by kernel_rfl) (fun _ _ _ h => h) (Or.inl ⟨by rfl, ?_⟩) (by assumption) ?_
     rotate_left 1
     ·intro w hSw
      have q := hSw
      go_simp
      with_reducible rfl
     refine wpAnyH_take (i := 2) (v := ?_) rfl (by kernel_rfl) (by kernel_rfl) (by kernel_rfl) (fun _ _ _ h => h) (Or.inl ⟨by rfl, ?_⟩) (by assumption) ?_
     rotate_left 1
     ·intro w hSw
      go_simp
      with_reducible rfl
     refine wpAnyH_ready (rs := [3]) (by kernel_rfl) (by simp) ?_
     refine AllReadyH.cons rfl (fun K hK => ?_) AllReadyH.nil
     go_simp
     refine HC2.out.mono ?_
     rintro e w9 ⟨rfl, hS⟩
     have hS2 := hS.out
     unfold GPn at hS2
     rw [hyo.out.1, hyo.out.2] at hS2
     refine ⟨rfl, ?_⟩
     show EPost x S p p n o L X w _ w9
     rw [hz2.out]
     exact hS2
    | ok t r =>
     obtain ⟨i0, hi0, hz0, hz1, hz2⟩ := info_parts info_int
     have Hi0 := Lib.hid hi0
     have Hz0 := Lib.hid hz0
     have Hz1 := Lib.hid hz1
     have Hz2 := Lib.hid hz2
     have hsm : count a ≤ 1000 := by have := sizes_le a; have := g3.rs.np; have := g3.rs.ts.pos; have := g3.rs.ts.len; omega
     have HC2 := Lib.hid (kid_ok ok g3 hE hg)
     unfold KidOk at HC2
     rw [ybn.out] at HC2
     have hM2 : Hid (rdZ f' (snoc a t) r = X) := Lib.hid (by rw [← HM.out, rdZ_go H125.out hg])
     have hml : Hid (count a + 1 ≤ maxLen) := Lib.hid (by unfold maxLen; omega)
     have hml2 : Hid ((count a + 1) * 8 ≤ 140737488355328) := Lib.hid (by omega)
     have hnw : Hid (∀ W' W'' : World, W''.heap[W'.heap.size]? = some (.cells #[.int .i64 ((y.n : Int) + (sizes a : Int) + (size t : Int) - 1)] 3) → ∀ j u, [.int .i64 ((y.n : Int) + (sizes a : Int) + (size t : Int) - 1)][j]? = some u → W''.cell? ((⟨W'.heap.size, 0, none⟩ : Addr).add j) = some u) := Lib.hid fun W' W'' hW' => World.news_of_block (cs := #[.int .i64 ((y.n : Int) + (sizes a : Int) + (size t : Int) - 1)]) (t := 3) (fr := (0, 0)) hW'
     clear hE hg g3 ok HM
     go_upto_region 4 with (fail)
     go_region_law (first | (refine step_append_lies _ (by rfl) _ _ _ (by rfl) y.kb 3 i0 _ 1 8 Tryz.underlying41 Hi0.out Hz0.out Hz1.out Hz2.out rfl (by omega) _ _ _ (by rfl) (hK1.out _ (by repeat (first | exact Bel.refl _ | refine Below.drew ?_ | refine Bel.alloc ?_ _))).1 ⟨w9.heap.size, 0, none⟩ 1 1 [.int .i64 ((y.n : Int) + (sizes a : Int) + (size t : Int) - 1)] (by rfl) (by rfl) (hnw.out w9 _ (heap_new w9 _)) (by simp [Value.oneCell']) (by omega) hml.out hml2.out (hK1.out _ (by repeat (first | exact Bel.refl _ | refine Below.drew ?_ | refine Bel.alloc ?_ _))).2 _ rfl ?_; intro gg cap w8 hown3 hgrow hat hlt; obtain ⟨d5, g5⟩ := hK2.out _ w8 (by repeat (first | exact Bel.refl _ | refine Below.drew ?_ | refine Bel.alloc ?_ _)) hgrow) | (go_simp; go_at_call 190; (with_reducible refine HC2.out.mono ?_); rintro e w9 ⟨rfl, d6, g6, _, hb2, hK1, hK2, hK3⟩))
     all_goals
      obtain ⟨p1, k1, k2, k3⟩ := hK3.out _ w8 gg cap (by repeat (first | exact Bel.refl _ | refine Below.drew ?_ | refine Bel.alloc ?_ _)) hown3 hgrow hat
      subst k2
      have K1 := Lib.hid k1
      obtain ⟨_, _, _, _, _, _, q⟩ := k1
      have hq := q.rs.ts.pos
      have ml := Lib.hid (left_is q.rs.ts)
      clear q
      go_wp2_with fail
      go_round
      case rel => exact ⟨snoc a t, p1, f', K1, hM2, by omega, by omega⟩
      case measure => rw [ml.out]; omega
end Syn
end Go.Proofs.YtmifookckpelaaaGreatDoor

/-
 Layer 8: branch and statement, as the program has them. Written by tools/genSzG.py.
-/
namespace Go.Proofs.YtmifookckpelaaaGreatDoor
open Go.RowKit Go.ChangeShapes Go.WideShapes
namespace Syn

theorem rdC_b1 {f : Nat} {k : Int} {r r' : List Ck} (h1 : rdE f 1 r = .bad r') : rdC (f + 1) k r = .bad r' := by rw [rdC, h1]
theorem rdC_b2 {f : Nat} {k : Int} {c : T} {r r1 r' : List Ck} (h1 : rdE f 1 r = .ok c r1) (h2 : rdB f r1 = .bad r') : rdC (f + 1) k r = .bad r' := by rw [rdC, h1]; simp only [h2]
theorem rdC_o {f : Nat} {k : Int} {c b : T} {r r1 r2 : List Ck} (h1 : rdE f 1 r = .ok c r1) (h2 : rdB f r1 = .ok b r2) (h3 : ¬ (k = 15 ∧ isT [101, 108, 115, 101] (hd r2) = true)) : rdC (f + 1) k r = .ok (.node k [] 0 [] (.cons c (.cons b .nil))) r2 := by rw [rdC, h1]; simp only [h2]; rw [if_neg h3]
theorem rdC_b3 {f : Nat} {k : Int} {c b : T} {r r1 r2 r' : List Ck} (h1 : rdE f 1 r = .ok c r1) (h2 : rdB f r1 = .ok b r2) (h3 : k = 15 ∧ isT [101, 108, 115, 101] (hd r2) = true) (h4 : rdB f r2.tail = .bad r') : rdC (f + 1) k r = .bad r' := by rw [rdC, h1]; simp only [h2]; rw [if_pos h3, h4]
theorem rdC_e {f : Nat} {k : Int} {c b d : T} {r r1 r2 r3 : List Ck} (h1 : rdE f 1 r = .ok c r1) (h2 : rdB f r1 = .ok b r2) (h3 : k = 15 ∧ isT [101, 108, 115, 101] (hd r2) = true) (h4 : rdB f r2.tail = .ok d r3) : rdC (f + 1) k r = .ok (.node k [] 0 [] (.cons c (.cons b (.cons d .nil)))) r3 := by rw [rdC, h1]; simp only [h2]; rw [if_pos h3, h4]
theorem roots_two (n : Nat) (c b : T) : roots n (.cons c (.cons b .nil)) = [(n : Int) + (size c : Int) - 1, (n : Int) + (size c : Int) + (size b : Int) - 1] := by
 have h1 := size_pos c
 have h2 := size_pos b
 rw [roots, roots, roots]
 congr 1
 ·omega
 ·congr 1; omega
theorem flats_two (n : Nat) (c b : T) : flats n (.cons c (.cons b .nil)) = flat n c ++ flat (n + size c) b := by rw [flats, flats, flats, List.append_nil]
theorem sizes_two (c b : T) : sizes (.cons c (.cons b .nil)) = size c + size b := by rw [sizes, sizes, sizes, Nat.add_zero]
set_option maxHeartbeats 1000000 in
/-- The beginning of a node with two parts that lie in a row of their own. -/
theorem gs_two {x : Cx} {S : Nat → Prop} {p p2 : Nat} {o o2 : Option Addr} {n c2 : Nat} {L : List Nd} {w w2 : World} {c b : T} (hsg : S x.g) (hsl : ∀ b, S b → b < w.heap.size) (hxb : x.g < x.base ∧ x.tb < x.base ∧ x.base ≤ w.heap.size) (r : RS x S p2 o2 (n + size c + size b) c2 (L ++ flat n c ++ flat (n + size c) b) w2) (t : RTo x.g o w o2 w2) (hs : size c + size b + p ≤ p2) (k : Int) (s : Txt) :
  (⟨false, S, p, n, o, L, w, w2.heap.size + 1, w2.heap.size + 1, w2.heap.size, k, s, 0⟩ : Bx).Ok x ∧ GS x ⟨false, S, p, n, o, L, w, w2.heap.size + 1, w2.heap.size + 1, w2.heap.size, k, s, 0⟩ [] (.cons c (.cons b .nil)) p2 o2 c2 none 0 (some ⟨w2.heap.size, 0, none⟩) 2 ((w2.alloc (.cells #[.int .i64 ((n : Int) + (size c : Int) - 1), .int .i64 ((n : Int) + (size c : Int) + (size b : Int) - 1)] 3)).alloc (.cells #[.int .i64 k, .string ⟨s.toArray⟩, .int .i64 0, .slice none 0 0, .slice (some ⟨w2.heap.size, 0, none⟩) 2 2] 60)) := by
 have e1 : (w2.alloc (.cells #[.int .i64 ((n : Int) + (size c : Int) - 1), .int .i64 ((n : Int) + (size c : Int) + (size b : Int) - 1)] 3)).heap.size = w2.heap.size + 1 := by show (w2.heap.push _).size = _; simp
 have hk := heap_new w2 (.cells #[.int .i64 ((n : Int) + (size c : Int) - 1), .int .i64 ((n : Int) + (size c : Int) + (size b : Int) - 1)] 3)
 obtain ⟨V, hV⟩ : ∃ V, w2.alloc (.cells #[.int .i64 ((n : Int) + (size c : Int) - 1), .int .i64 ((n : Int) + (size c : Int) + (size b : Int) - 1)] 3) = V := ⟨_, rfl⟩
 have B1 : Bel w2 V := by rw [← hV]; exact Bel.alloc (Bel.refl w2) _
 rw [hV] at e1 hk ⊢
 have B2 := Bel.alloc (Bel.refl V) (.cells #[.int .i64 k, .string ⟨s.toArray⟩, .int .i64 0, .slice none 0 0, .slice (some ⟨w2.heap.size, 0, none⟩) 2 2] 60)
 obtain ⟨y0, y1, y2, y3, y4⟩ := box5 V (.int .i64 k) (.string ⟨s.toArray⟩) (.int .i64 0) (.slice none 0 0) (.slice (some ⟨w2.heap.size, 0, none⟩) 2 2) 60
 have hfz : ∀ j, (V.alloc (.cells #[.int .i64 k, .string ⟨s.toArray⟩, .int .i64 0, .slice none 0 0, .slice (some ⟨w2.heap.size, 0, none⟩) 2 2] 60)).frozen? ⟨V.heap.size, j, none⟩ = false := fun j => World.frozen?_alloc_new _ _ _ _
 have hsz := alloc_lt V (.cells #[.int .i64 k, .string ⟨s.toArray⟩, .int .i64 0, .slice none 0 0, .slice (some ⟨w2.heap.size, 0, none⟩) 2 2] 60)
 obtain ⟨U, hU⟩ : ∃ U, V.alloc (.cells #[.int .i64 k, .string ⟨s.toArray⟩, .int .i64 0, .slice none 0 0, .slice (some ⟨w2.heap.size, 0, none⟩) 2 2] 60) = U := ⟨_, rfl⟩
 rw [hU] at B2 y0 y1 y2 y3 y4 hfz hsz ⊢
 rw [e1] at y0 y1 y2 y3 y4 hfz hsz
 have B := B1.trans B2
 have hkU : U.heap[w2.heap.size]? = some (.cells #[.int .i64 ((n : Int) + (size c : Int) - 1), .int .i64 ((n : Int) + (size c : Int) + (size b : Int) - 1)] 3) := (B2.block _ (by omega)).trans hk
 have hblk : ∀ q, Blk (some (⟨w2.heap.size, 0, none⟩ : Addr)) q → q = w2.heap.size := fun q ⟨_, z⟩ => by simp only [Option.some.injEq, Addr.mk.injEq] at z; exact z.1.symm
 have hw := t.mod.size
 refine ⟨⟨fun e => (by cases e), hw, ⟨by show w.heap.size ≤ w2.heap.size + 1; omega, by show w.heap.size ≤ w2.heap.size + 1; omega⟩, hxb, hsg, hsl⟩, ⟨?_, t.bel B, ⟨y0, y1, y2, y3, by show _ = some (Value.slice _ (count _) 2); rw [count, count, count]; exact y4, hfz⟩, fun e => (by cases e), World.ownsRow_nil _ _ _ _, ?_, fun b ⟨_, q⟩ => (by cases q), (by show sizes _ + p ≤ p2; rw [sizes_two]; exact hs), (by show w2.heap.size ≤ U.heap.size; omega), fun q hq => ?_, hsz⟩⟩
 ·show RS x _ p2 o2 (n + sizes _) c2 (L ++ flats n _) U
  rw [sizes_two, flats_two, ← List.append_assoc, ← Nat.add_assoc]
  refine r.wide B (fun q hq => ?_) (fun q hq => ?_) (Or.inl hsg)
  ·rcases hq with q1 | rfl | rfl | ⟨_, q1⟩ | q1
   ·exact Or.inl q1
   ·exact Or.inr (by show w2.heap.size ≤ w2.heap.size + 1; omega)
   ·exact Or.inr (by show w2.heap.size ≤ w2.heap.size + 1; omega)
   ·cases q1
   ·exact Or.inr (by rw [hblk q q1]; exact Nat.le_refl _)
  ·rcases hq with q1 | rfl | rfl | ⟨_, q1⟩ | q1
   ·exact Nat.lt_of_lt_of_le (r.sl q q1).1 B.size
   ·exact hsz
   ·exact hsz
   ·cases q1
   ·rw [hblk q q1]; omega
 ·show U.ownsRow w2.heap.size 3 1 (.slice (some ⟨w2.heap.size, 0, none⟩) (count _) 2) (count _) (encZ (roots n _))
  rw [roots_two, count, count, count]
  refine ⟨rfl, Or.inr ⟨w2.heap.size, 2, _, rfl, Nat.le_refl _, hkU, by decide, by unfold maxLen; decide, rfl, rfl⟩⟩
 ·rcases hq with ⟨_, q1⟩ | q1
  ·cases q1
  ·have := hblk q q1
   show q ≠ w2.heap.size + 1 ∧ q ≠ w2.heap.size + 1
   omega
set_option maxRecDepth 100000 in
set_option maxHeartbeats 8000000 in
theorem branch_16 {x : Cx} {S : Nat → Prop} {p : Nat} {o : Option Addr} {n c : Nat} {L : List Nd} (w : World) (h : RS x S p o n c L w) (hn : n + 1 ≤ p) (q : Nat) (hq : q + 1 ≤ p) (hB : ∀ p', p < p' → Rf x 137 rdB 1 p') (f : Nat) (hf : 20 * (x.T.length - p) + 12 ≤ f) :
  Calls Tryz.prog 243 #[.pointer (some ⟨x.g, 0, none⟩), .int .i64 16] w (EPost x S p q n o L (rdC f 16 (x.at p)) w) := by
 obtain ⟨f, rfl⟩ : ∃ g, f = g + 1 := ⟨f - 1, by omega⟩
 have HE := Lib.hid (expr_all x p f (by omega) S o n c L w h)
 have HB := Lib.hid hB
 have Hsg := Lib.hid h.sg
 have Hsl : Hid (∀ b, S b → b < w.heap.size) := Lib.hid fun b hb => (h.sl b hb).1
 have Hxb := Lib.hid h.lt
 obtain ⟨X, hX⟩ : ∃ X, rdC (f + 1) 16 (x.at p) = X := ⟨_, rfl⟩
 have HX := Lib.hid hX
 rw [hX]
 clear h hB hX
 go_enter Tryz.func243, Tryz.ntmps243
 go_wp2_with fail
 refine HE.out.mono ?_
 intro e w1 h1
 clear HE
 cases hg1 : rdE f 1 (x.at p) with
 | bad r =>
  rw [hg1] at h1
  obtain ⟨rfl, H9⟩ := h1
  have hz : Hid (X = .bad r) := Lib.hid (by rw [← HX.out, rdC_b1 hg1])
  have H9c := Lib.hid H9
  clear H9
  go_wp2_with fail
  rw [hz.out]
  exact ⟨rfl, rfl, H9c.out⟩
 | ok cT r =>
  rw [hg1] at h1
  obtain ⟨rfl, p1, o1, c1, r1, t1, rfl, hp1, hs1⟩ := h1
  have HBk := Lib.hid (HB.out p1 hp1 f (by have := r1.ts.pos; omega) S _ _ _ _ w1 r1)
  have T1 := Lib.hid t1
  have q1 := r1.ts.pos
  have Hg1 := Lib.hid hg1
  clear r1 t1 hg1
  go_wp2_with fail
  refine HBk.out.mono ?_
  intro e w2 h2
  have h2 := EPost.from T1.out h2
  clear HBk
  cases hg2 : rdB f (x.at p1) with
  | bad r =>
   rw [hg2] at h2
   obtain ⟨rfl, H9⟩ := h2
   have hz : Hid (X = .bad r) := Lib.hid (by rw [← HX.out, rdC_b2 Hg1.out hg2])
   have H9c := Lib.hid H9
   clear H9
   go_wp2_with fail
   rw [hz.out]
   exact ⟨rfl, rfl, H9c.out⟩
  | ok bT r =>
   rw [hg2] at h2
   obtain ⟨rfl, p2, o2, c2, r2, t2, rfl, hp2, hs2⟩ := h2
   have Hg2 := Lib.hid hg2
   have q2 := r2.ts.pos
   obtain ⟨ok, g3⟩ := gs_two (p := p) Hsg.out Hsl.out Hxb.out r2 t2 (by omega) 16 []
   obtain ⟨W3, hW3⟩ : ∃ W3, (w2.alloc (.cells #[.int .i64 ((n : Int) + (size cT : Int) - 1), .int .i64 ((n : Int) + (size cT : Int) + (size bT : Int) - 1)] 3)).alloc (.cells #[.int .i64 16, .string ⟨#[]⟩, .int .i64 0, .slice none 0 0, .slice (some ⟨w2.heap.size, 0, none⟩) 2 2] 60) = W3 := ⟨_, rfl⟩
   have g3 : GS x ⟨false, S, p, n, o, L, w, w2.heap.size + 1, w2.heap.size + 1, w2.heap.size, 16, [], 0⟩ [] (.cons cT (.cons bT .nil)) p2 o2 c2 none 0 (some ⟨w2.heap.size, 0, none⟩) 2 W3 := by rw [← hW3]; exact g3
   obtain ⟨y, hy⟩ : ∃ y : Bx, (⟨false, S, p, n, o, L, w, w2.heap.size + 1, w2.heap.size + 1, w2.heap.size, 16, [], 0⟩ : Bx) = y := ⟨_, rfl⟩
   rw [hy] at g3 ok
   have HY := Lib.hid hy
   have OK := Lib.hid ok
   have G3 := Lib.hid g3
   have Hw := Lib.hid hW3
   clear r2 t2 hg2 hy ok g3 hW3
   have hz : Hid (X = .ok (.node 16 [] 0 [] (.cons cT (.cons bT .nil))) (x.at p2)) := Lib.hid (by rw [← HX.out, rdC_o Hg1.out Hg2.out (fun e => absurd e.1 (by decide))])
   have g4 := G3.out
   have HF := Lib.hid (fin_any W3 g4 OK.out (by rw [← HY.out]; exact hn))
   have e1 := g4.box.k
   have e2 := g4.box.s
   have e3 := g4.box.i
   have e4 := g4.box.ks
   have e5 := g4.box.js
   have hsz := g4.sz
   have hyy := HY.out
   subst hyy
   dsimp only at e1 e2 e3 e4 e5 hsz HF
   simp only [List.length_nil, count, Nat.zero_add, Nat.reduceAdd] at e4 e5 HF
   clear g4
   rw [← Hw.out] at e1 e2 e3 e4 e5
   go_wp2_with fail
   rw [Hw.out]
   refine HF.out.mono ?_
   rintro e w7 ⟨rfl, o7, c7, r7, u7⟩
   have R7 := Lib.hid r7
   have T7 := Lib.hid u7
   clear r7 u7
   go_wp2_with fail
   go_ret
   rw [hz.out]
   exact EPost.mk (p := p) (q := q) (p' := p2) (t := .node 16 [] 0 [] (.cons cT (.cons bT .nil))) (o' := o7) (c' := c7) (by rw [size] <;> omega) R7.out T7.out (by omega) (by rw [size]; omega)
set_option maxRecDepth 100000 in
set_option maxHeartbeats 8000000 in
theorem branch_15 {x : Cx} {S : Nat → Prop} {p : Nat} {o : Option Addr} {n c : Nat} {L : List Nd} (w : World) (h : RS x S p o n c L w) (hn : n + 1 ≤ p) (q : Nat) (hq : q + 1 ≤ p) (hB : ∀ p', p < p' → Rf x 137 rdB 1 p') (f : Nat) (hf : 20 * (x.T.length - p) + 12 ≤ f) :
  Calls Tryz.prog 243 #[.pointer (some ⟨x.g, 0, none⟩), .int .i64 15] w (EPost x S p q n o L (rdC f 15 (x.at p)) w) := by
 obtain ⟨f, rfl⟩ : ∃ g, f = g + 1 := ⟨f - 1, by omega⟩
 have HE := Lib.hid (expr_all x p f (by omega) S o n c L w h)
 have HB := Lib.hid hB
 have Hsg := Lib.hid h.sg
 have Hsl : Hid (∀ b, S b → b < w.heap.size) := Lib.hid fun b hb => (h.sl b hb).1
 have Hxb := Lib.hid h.lt
 obtain ⟨X, hX⟩ : ∃ X, rdC (f + 1) 15 (x.at p) = X := ⟨_, rfl⟩
 have HX := Lib.hid hX
 rw [hX]
 clear h hB hX
 go_enter Tryz.func243, Tryz.ntmps243
 go_wp2_with fail
 refine HE.out.mono ?_
 intro e w1 h1
 clear HE
 cases hg1 : rdE f 1 (x.at p) with
 | bad r =>
  rw [hg1] at h1
  obtain ⟨rfl, H9⟩ := h1
  have hz : Hid (X = .bad r) := Lib.hid (by rw [← HX.out, rdC_b1 hg1])
  have H9c := Lib.hid H9
  clear H9
  go_wp2_with fail
  rw [hz.out]
  exact ⟨rfl, rfl, H9c.out⟩
 | ok cT r =>
  rw [hg1] at h1
  obtain ⟨rfl, p1, o1, c1, r1, t1, rfl, hp1, hs1⟩ := h1
  have HBk := Lib.hid (HB.out p1 hp1 f (by have := r1.ts.pos; omega) S _ _ _ _ w1 r1)
  have T1 := Lib.hid t1
  have q1 := r1.ts.pos
  have Hg1 := Lib.hid hg1
  clear r1 t1 hg1
  go_wp2_with fail
  refine HBk.out.mono ?_
  intro e w2 h2
  have h2 := EPost.from T1.out h2
  clear HBk
  cases hg2 : rdB f (x.at p1) with
  | bad r =>
   rw [hg2] at h2
   obtain ⟨rfl, H9⟩ := h2
   have hz : Hid (X = .bad r) := Lib.hid (by rw [← HX.out, rdC_b2 Hg1.out hg2])
   have H9c := Lib.hid H9
   clear H9
   go_wp2_with fail
   rw [hz.out]
   exact ⟨rfl, rfl, H9c.out⟩
  | ok bT r =>
   rw [hg2] at h2
   obtain ⟨rfl, p2, o2, c2, r2, t2, rfl, hp2, hs2⟩ := h2
   have Hg2 := Lib.hid hg2
   have q2 := r2.ts.pos
   obtain ⟨ok, g3⟩ := gs_two (p := p) Hsg.out Hsl.out Hxb.out r2 t2 (by omega) 15 []
   obtain ⟨W3, hW3⟩ : ∃ W3, (w2.alloc (.cells #[.int .i64 ((n : Int) + (size cT : Int) - 1), .int .i64 ((n : Int) + (size cT : Int) + (size bT : Int) - 1)] 3)).alloc (.cells #[.int .i64 15, .string ⟨#[]⟩, .int .i64 0, .slice none 0 0, .slice (some ⟨w2.heap.size, 0, none⟩) 2 2] 60) = W3 := ⟨_, rfl⟩
   have g3 : GS x ⟨false, S, p, n, o, L, w, w2.heap.size + 1, w2.heap.size + 1, w2.heap.size, 15, [], 0⟩ [] (.cons cT (.cons bT .nil)) p2 o2 c2 none 0 (some ⟨w2.heap.size, 0, none⟩) 2 W3 := by rw [← hW3]; exact g3
   obtain ⟨y, hy⟩ : ∃ y : Bx, (⟨false, S, p, n, o, L, w, w2.heap.size + 1, w2.heap.size + 1, w2.heap.size, 15, [], 0⟩ : Bx) = y := ⟨_, rfl⟩
   rw [hy] at g3 ok
   have HY := Lib.hid hy
   have OK := Lib.hid ok
   have G3 := Lib.hid g3
   have Hw := Lib.hid hW3
   clear r2 t2 hg2 hy ok g3 hW3
   cases hb : isT [101, 108, 115, 101] (hd (x.at p2)) with
   | false =>
    have hz : Hid (X = .ok (.node 15 [] 0 [] (.cons cT (.cons bT .nil))) (x.at p2)) := Lib.hid (by rw [← HX.out, rdC_o Hg1.out Hg2.out (by rw [hb]; decide)])
    have HA := Lib.hid (accept_no [101, 108, 115, 101] W3 G3.out.rs hb)
    clear hb
    go_wp2_with fail
    rw [Hw.out]
    refine HA.out.mono ?_
    rintro e w5 ⟨rfl, r5, u5⟩
    have g4 := G3.out.step OK.out u5 r5 (Nat.le_refl _)
    clear r5 u5 HA G3 Hw
    have HF := Lib.hid (fin_any w5 g4 OK.out (by rw [← HY.out]; exact hn))
    have e1 := g4.box.k
    have e2 := g4.box.s
    have e3 := g4.box.i
    have e4 := g4.box.ks
    have e5 := g4.box.js
    have hsz := g4.sz
    have hyy := HY.out
    subst hyy
    dsimp only at e1 e2 e3 e4 e5 hsz HF
    simp only [List.length_nil, count, Nat.zero_add, Nat.reduceAdd] at e4 e5 HF
    clear g4
    go_wp2_with fail
    refine HF.out.mono ?_
    rintro e w7 ⟨rfl, o7, c7, r7, u7⟩
    have R7 := Lib.hid r7
    have T7 := Lib.hid u7
    clear r7 u7
    go_wp2_with fail
    go_ret
    rw [hz.out]
    exact EPost.mk (p := p) (q := q) (p' := p2) (t := .node 15 [] 0 [] (.cons cT (.cons bT .nil))) (o' := o7) (c' := c7) (by rw [size] <;> omega) R7.out T7.out (by omega) (by rw [size]; omega)
   | true =>
    have HA := Lib.hid (accept_yes [101, 108, 115, 101] W3 G3.out.rs hb)
    have hlt := isT_lt hb
    have Hb := Lib.hid hb
    clear hb
    go_wp2_with fail
    rw [Hw.out]
    refine HA.out.mono ?_
    rintro e w5 ⟨rfl, r5, u5⟩
    have g5 := G3.out.step OK.out u5 r5 (Nat.le_succ _)
    clear r5 u5 HA G3 Hw
    have ybn : Hid (y.bn = w2.heap.size + 1) := Lib.hid (by rw [← HY.out])
    have d4 := g5.box.js
    have f4 := g5.box.fz 4
    have hbn : y.bn < w5.heap.size := g5.box.lt
    rw [ybn.out] at d4 f4 hbn
    have ok := OK.out
    have hE := HB.out (p2 + 1) (by omega) f (by omega)
    cases hg : rdB f (x.at (p2 + 1)) with
    | bad r =>
     have HC2 := Lib.hid (kid_bad ok g5 hE hg)
     have hz2 : Hid (X = .bad r) := Lib.hid (by rw [← HX.out, rdC_b3 Hg1.out Hg2.out ⟨rfl, Hb.out⟩ (by rw [tail_at]; exact hg)])
     have hyo : Hid (y.o = o ∧ y.w = w) := Lib.hid (by rw [← HY.out]; exact ⟨rfl, rfl⟩)
     simp only [count, Nat.zero_add, Nat.reduceAdd] at d4
     clear g5 ok hE hg
     go_upto_region 4 with (fail)
     refine wp_region_held_drew (S := fun W => W.cell? ⟨w2.heap.size + 1, 4, none⟩ = some (.slice (some ⟨w2.heap.size, 0, none⟩) 2 2)) (by kernel_rfl) d4 (fun hH => ?_)
     refine wpAnyH_take (i := 0) (v := ?_) rfl (by kernel_rfl) (by kernel_rfl) (by kernel_rfl) (fun _ _ _ h => h) (Or.inl ⟨by rfl, ?_⟩) (by assumption) ?_
     rotate_left 1
     ·intro w hSw
      go_simp
      with_reducible rfl
     refine wpAnyH_take (i := 1) (v := ?_) rfl (by kernel_rfl) (by kernel_rfl) (by kernel_rfl) (fun _ _ _ h => h) (Or.inl ⟨by rfl, ?_⟩) (by assumption) ?_
     rotate_left 1
     ·intro w hSw
      have q := hSw
      go_simp
      with_reducible rfl
     refine wpAnyH_take (i := 2) (v := ?_) rfl (by kernel_rfl) (by kernel_rfl) (by kernel_rfl) (fun _ _ _ h => h) (Or.inl ⟨by rfl, ?_⟩) (by assumption) ?_
     rotate_left 1
     ·intro w hSw
      go_simp
      with_reducible rfl
     refine wpAnyH_ready (rs := [3]) (by kernel_rfl) (by simp) ?_
     refine AllReadyH.cons rfl (fun K hK => ?_) AllReadyH.nil
     go_simp
     refine HC2.out.mono ?_
     rintro e w9 ⟨rfl, hS⟩
     have hS2 := hS.out
     unfold GPn at hS2
     rw [hyo.out.1, hyo.out.2] at hS2
     refine ⟨rfl, ?_⟩
     show EPost x S p q n o L X w _ w9
     rw [hz2.out]
     exact hS2
    | ok t r =>
     obtain ⟨i0, hi0, hz0, hz1, hz2⟩ := info_parts info_int
     have Hi0 := Lib.hid hi0
     have Hz0 := Lib.hid hz0
     have Hz1 := Lib.hid hz1
     have Hz2 := Lib.hid hz2
     have HC2 := Lib.hid (kid_ok ok g5 hE hg)
     unfold KidOk at HC2
     rw [ybn.out] at HC2
     simp only [count, Nat.zero_add, Nat.reduceAdd] at HC2 d4
     have hz : Hid (X = .ok (.node 15 [] 0 [] (.cons cT (.cons bT (.cons t .nil)))) r) := Lib.hid (by rw [← HX.out, rdC_e Hg1.out Hg2.out ⟨rfl, Hb.out⟩ (by rw [tail_at]; exact hg)])
     have hml : Hid (2 + 1 ≤ maxLen) := Lib.hid (by unfold maxLen; omega)
     have hml2 : Hid ((2 + 1) * 8 ≤ 140737488355328) := Lib.hid (by omega)
     obtain ⟨a, ha⟩ : ∃ a, Ts.cons cT (.cons bT .nil) = a := ⟨_, rfl⟩
     rw [ha] at HC2
     have Ha := Lib.hid ha
     have hnw : Hid (∀ W' W'' : World, W''.heap[W'.heap.size]? = some (.cells #[.int .i64 ((y.n : Int) + (sizes a : Int) + (size t : Int) - 1)] 3) → ∀ j u, [.int .i64 ((y.n : Int) + (sizes a : Int) + (size t : Int) - 1)][j]? = some u → W''.cell? ((⟨W'.heap.size, 0, none⟩ : Addr).add j) = some u) := Lib.hid fun W' W'' hW' => World.news_of_block (cs := #[.int .i64 ((y.n : Int) + (sizes a : Int) + (size t : Int) - 1)]) (t := 3) (fr := (0, 0)) hW'
     clear hE hg g5 ok ha
     go_upto_region 4 with (fail)
     go_cut [] (fun wx => Hid (∃ p1, GSt x y [] (snoc a t) p1 wx ∧ r = x.at p1 ∧ p2 + 1 < p1))
     case first =>
      go_region_law (first | (refine step_append_lies _ (by rfl) _ _ _ (by rfl) y.kb 3 i0 _ 1 8 Tryz.underlying41 Hi0.out Hz0.out Hz1.out Hz2.out rfl (by omega) _ _ _ (by rfl) (hK1.out _ (by repeat (first | exact Bel.refl _ | refine Below.drew ?_ | refine Bel.alloc ?_ _))).1 ⟨w9.heap.size, 0, none⟩ 1 1 [.int .i64 ((y.n : Int) + (sizes a : Int) + (size t : Int) - 1)] (by rfl) (by rfl) (hnw.out w9 _ (heap_new w9 _)) (by simp [Value.oneCell']) (by omega) hml.out hml2.out (hK1.out _ (by repeat (first | exact Bel.refl _ | refine Below.drew ?_ | refine Bel.alloc ?_ _))).2 _ rfl ?_; intro gg cap w8 hown3 hgrow hat hlt'; obtain ⟨d5, g5⟩ := hK2.out _ w8 (by repeat (first | exact Bel.refl _ | refine Below.drew ?_ | refine Bel.alloc ?_ _)) hgrow) | (go_simp; go_at_call 137; (with_reducible refine HC2.out.mono ?_); rintro e w9 ⟨rfl, d6, g6, _, hb2, hK1, hK2, hK3⟩))
      all_goals
       have k1 := hK3.out _ w8 gg cap (by repeat (first | exact Bel.refl _ | refine Below.drew ?_ | refine Bel.alloc ?_ _)) hown3 hgrow hat
       go_wp2_with fail
       go_meet
       exact Lib.hid k1
     case rest =>
      obtain ⟨p4, ⟨o4, c4, qo4, qc4, ko4, kc4, g4⟩, rfl, hp4⟩ := hcut.out
      have ha := Ha.out
      subst ha
      have hp4T := g4.rs.ts.pos
      clear d4 f4 hbn HC2 hnw
      have HF := Lib.hid (fin_any wc g4 OK.out (by rw [← HY.out]; exact hn))
      have e1 := g4.box.k
      have e2 := g4.box.s
      have e3 := g4.box.i
      have e4 := g4.box.ks
      have e5 := g4.box.js
      have hsz := g4.sz
      rw [show sizes (snoc (.cons cT (.cons bT .nil)) t) = sizes (.cons cT (.cons bT (.cons t .nil))) from rfl] at hsz
      have hyy := HY.out
      subst hyy
      dsimp only at e1 e2 e3 e4 e5 hsz HF
      simp only [List.length_nil, snoc, app, count, Nat.zero_add, Nat.reduceAdd] at e4 e5 HF
      clear g4
      go_wp2_with fail
      refine HF.out.mono ?_
      rintro e w7 ⟨rfl, o7, c7, r7, u7⟩
      have R7 := Lib.hid r7
      have T7 := Lib.hid u7
      clear r7 u7
      go_wp2_with fail
      go_ret
      rw [hz.out]
      exact EPost.mk (p := p) (q := q) (p' := p4) (t := .node 15 [] 0 [] (.cons cT (.cons bT (.cons t .nil)))) (o' := o7) (c' := c7) (by rw [size] <;> omega) R7.out T7.out (by omega) (by rw [size]; omega)
end Syn
end Go.Proofs.YtmifookckpelaaaGreatDoor

/-
 Layer 8: statement, as the program has it; statements and blocks. Written by tools/genSzH.py.
-/
namespace Go.Proofs.YtmifookckpelaaaGreatDoor
open Go.RowKit Go.ChangeShapes Go.WideShapes
namespace Syn

theorem rdS_0 {f : Nat} {r : List Ck}  (b0 : isT [108, 101, 116] (hd r) = true) : rdS (f + 1) r = rdA f 13 r.tail := by rw [rdS, if_pos b0]
theorem rdS_1 {f : Nat} {r : List Ck} (b0 : isT [108, 101, 116] (hd r) = false) (b1 : setB r = true) : rdS (f + 1) r = rdA f 14 r := by rw [rdS, if_neg (by rw [b0]; decide), if_pos b1]
theorem rdS_2 {f : Nat} {r : List Ck} (b0 : isT [108, 101, 116] (hd r) = false) (b1 : setB r = false) (b2 : isT [105, 102] (hd r) = true) : rdS (f + 1) r = rdC f 15 r.tail := by rw [rdS, if_neg (by rw [b0]; decide), if_neg (by rw [b1]; decide), if_pos b2]
theorem rdS_3 {f : Nat} {r : List Ck} (b0 : isT [108, 101, 116] (hd r) = false) (b1 : setB r = false) (b2 : isT [105, 102] (hd r) = false) (b3 : isT [119, 104, 105, 108, 101] (hd r) = true) : rdS (f + 1) r = rdC f 16 r.tail := by rw [rdS, if_neg (by rw [b0]; decide), if_neg (by rw [b1]; decide), if_neg (by rw [b2]; decide), if_pos b3]
theorem rdS_4 {f : Nat} {r : List Ck} (b0 : isT [108, 101, 116] (hd r) = false) (b1 : setB r = false) (b2 : isT [105, 102] (hd r) = false) (b3 : isT [119, 104, 105, 108, 101] (hd r) = false) (b4 : isT [114, 101, 116, 117, 114, 110] (hd r) = true) : rdS (f + 1) r = endR 17 [] (rdE f 1 r.tail) := by rw [rdS, if_neg (by rw [b0]; decide), if_neg (by rw [b1]; decide), if_neg (by rw [b2]; decide), if_neg (by rw [b3]; decide), if_pos b4, rdN_end]
theorem rdS_5 {f : Nat} {r : List Ck} (b0 : isT [108, 101, 116] (hd r) = false) (b1 : setB r = false) (b2 : isT [105, 102] (hd r) = false) (b3 : isT [119, 104, 105, 108, 101] (hd r) = false) (b4 : isT [114, 101, 116, 117, 114, 110] (hd r) = false) : rdS (f + 1) r = endR 18 [] (rdE f 1 r) := by rw [rdS, if_neg (by rw [b0]; decide), if_neg (by rw [b1]; decide), if_neg (by rw [b2]; decide), if_neg (by rw [b3]; decide), if_neg (by rw [b4]; decide), rdN_end]
set_option maxRecDepth 100000 in
set_option maxHeartbeats 8000000 in
theorem statement_any {x : Cx} {p : Nat} (hB : ∀ p', p < p' → Rf x 137 rdB 1 p') : Rf x 190 rdS 12 p := by
 intro f hf S o n c L w h
 obtain ⟨f, rfl⟩ : ∃ g, f = g + 1 := ⟨f - 1, by omega⟩
 have hnp := h.np
 by_cases b0 : isT [108, 101, 116] (hd (x.at p)) = true
 ·rw [rdS_0 b0, tail_at]
  obtain ⟨X, hX⟩ : ∃ X, rdA f 13 (x.at (p + 1)) = X := ⟨_, rfl⟩
  rw [hX]
  have hp2 := isT_lt b0
  have R0 := Lib.hid h
  have T0 := Lib.hid (RTo.refl x.g o w)
  clear h
  go_enter Tryz.func190, Tryz.ntmps190
  go_wp2_with fail
  refine (accept_yes [108, 101, 116] _ R0.out b0).mono ?_
  rintro e v0 ⟨rfl, r, u⟩
  have T9 := Lib.hid (T0.out.trans u)
  have HG := Lib.hid (assign_any 13 v0 r p (by omega) f (by omega))
  rw [hX] at HG
  go_wp2_with fail
  refine HG.out.mono ?_
  intro e w3 h3
  have h4 := EPost.from T9.out h3
  clear h3 HG
  cases X with
  | bad r =>
   obtain ⟨rfl, H4⟩ := h4
   have H4c := Lib.hid H4
   clear H4
   go_wp2_with fail
   exact ⟨rfl, rfl, H4c.out⟩
  | ok t r =>
   obtain ⟨rfl, p4, o4, c4, r4, u4, rfl, hp4, hs4⟩ := h4
   have R11 := Lib.hid r4
   have T11 := Lib.hid u4
   clear r4 u4
   go_wp2_with fail
   go_ret
   exact EPost.mk rfl R11.out T11.out (by omega) hs4
 have b0 : isT [108, 101, 116] (hd (x.at p)) = false := by simpa using b0
 by_cases b1 : setB (x.at p) = true
 ·rw [rdS_1 b0 b1]
  obtain ⟨X, hX⟩ : ∃ X, rdA f 14 (x.at p) = X := ⟨_, rfl⟩
  rw [hX]
  have R0 := Lib.hid h
  have T0 := Lib.hid (RTo.refl x.g o w)
  clear h
  go_enter Tryz.func190, Tryz.ntmps190
  go_wp2_with fail
  refine (accept_no [108, 101, 116] _ R0.out b0).mono ?_
  rintro e v0 ⟨rfl, r1, u1⟩
  have R1 := Lib.hid r1
  have T1 := Lib.hid (T0.out.trans u1)
  clear r1 u1
  go_wp2_with fail
  refine (seesA_any _ R1.out.ts).mono ?_
  rw [b1]
  rintro e v1 ⟨rfl, rfl⟩
  have T9 := T1
  have HG := Lib.hid (assign_any 14 v1 R1.out p (Nat.le_refl _) f (by omega))
  rw [hX] at HG
  go_wp2_with fail
  refine HG.out.mono ?_
  intro e w3 h3
  have h4 := EPost.from T9.out h3
  clear h3 HG
  cases X with
  | bad r =>
   obtain ⟨rfl, H4⟩ := h4
   have H4c := Lib.hid H4
   clear H4
   go_wp2_with fail
   exact ⟨rfl, rfl, H4c.out⟩
  | ok t r =>
   obtain ⟨rfl, p4, o4, c4, r4, u4, rfl, hp4, hs4⟩ := h4
   have R11 := Lib.hid r4
   have T11 := Lib.hid u4
   clear r4 u4
   go_wp2_with fail
   go_ret
   exact EPost.mk rfl R11.out T11.out (by omega) hs4
 have b1 : setB (x.at p) = false := by simpa using b1
 by_cases b2 : isT [105, 102] (hd (x.at p)) = true
 ·rw [rdS_2 b0 b1 b2, tail_at]
  obtain ⟨X, hX⟩ : ∃ X, rdC f 15 (x.at (p + 1)) = X := ⟨_, rfl⟩
  rw [hX]
  have hp2 := isT_lt b2
  have R0 := Lib.hid h
  have T0 := Lib.hid (RTo.refl x.g o w)
  clear h
  go_enter Tryz.func190, Tryz.ntmps190
  go_wp2_with fail
  refine (accept_no [108, 101, 116] _ R0.out b0).mono ?_
  rintro e v0 ⟨rfl, r1, u1⟩
  have R1 := Lib.hid r1
  have T1 := Lib.hid (T0.out.trans u1)
  clear r1 u1
  go_wp2_with fail
  refine (seesA_any _ R1.out.ts).mono ?_
  rw [b1]
  rintro e v1 ⟨rfl, rfl⟩
  have R2 := R1
  have T2 := T1
  go_wp2_with fail
  refine (accept_yes [105, 102] _ R2.out b2).mono ?_
  rintro e v2 ⟨rfl, r, u⟩
  have T9 := Lib.hid (T2.out.trans u)
  have HG := Lib.hid (branch_15 v2 r (by omega) p (by omega) (fun p' hp' => hB p' (by omega)) f (by omega))
  rw [hX] at HG
  go_wp2_with fail
  refine HG.out.mono ?_
  intro e w3 h3
  have h4 := EPost.from T9.out h3
  clear h3 HG
  cases X with
  | bad r =>
   obtain ⟨rfl, H4⟩ := h4
   have H4c := Lib.hid H4
   clear H4
   go_wp2_with fail
   exact ⟨rfl, rfl, H4c.out⟩
  | ok t r =>
   obtain ⟨rfl, p4, o4, c4, r4, u4, rfl, hp4, hs4⟩ := h4
   have R11 := Lib.hid r4
   have T11 := Lib.hid u4
   clear r4 u4
   go_wp2_with fail
   go_ret
   exact EPost.mk rfl R11.out T11.out (by omega) hs4
 have b2 : isT [105, 102] (hd (x.at p)) = false := by simpa using b2
 by_cases b3 : isT [119, 104, 105, 108, 101] (hd (x.at p)) = true
 ·rw [rdS_3 b0 b1 b2 b3, tail_at]
  obtain ⟨X, hX⟩ : ∃ X, rdC f 16 (x.at (p + 1)) = X := ⟨_, rfl⟩
  rw [hX]
  have hp2 := isT_lt b3
  have R0 := Lib.hid h
  have T0 := Lib.hid (RTo.refl x.g o w)
  clear h
  go_enter Tryz.func190, Tryz.ntmps190
  go_wp2_with fail
  refine (accept_no [108, 101, 116] _ R0.out b0).mono ?_
  rintro e v0 ⟨rfl, r1, u1⟩
  have R1 := Lib.hid r1
  have T1 := Lib.hid (T0.out.trans u1)
  clear r1 u1
  go_wp2_with fail
  refine (seesA_any _ R1.out.ts).mono ?_
  rw [b1]
  rintro e v1 ⟨rfl, rfl⟩
  have R2 := R1
  have T2 := T1
  go_wp2_with fail
  refine (accept_no [105, 102] _ R2.out b2).mono ?_
  rintro e v2 ⟨rfl, r3, u3⟩
  have R3 := Lib.hid r3
  have T3 := Lib.hid (T2.out.trans u3)
  clear r3 u3
  go_wp2_with fail
  refine (accept_yes [119, 104, 105, 108, 101] _ R3.out b3).mono ?_
  rintro e v3 ⟨rfl, r, u⟩
  have T9 := Lib.hid (T3.out.trans u)
  have HG := Lib.hid (branch_16 v3 r (by omega) p (by omega) (fun p' hp' => hB p' (by omega)) f (by omega))
  rw [hX] at HG
  go_wp2_with fail
  refine HG.out.mono ?_
  intro e w3 h3
  have h4 := EPost.from T9.out h3
  clear h3 HG
  cases X with
  | bad r =>
   obtain ⟨rfl, H4⟩ := h4
   have H4c := Lib.hid H4
   clear H4
   go_wp2_with fail
   exact ⟨rfl, rfl, H4c.out⟩
  | ok t r =>
   obtain ⟨rfl, p4, o4, c4, r4, u4, rfl, hp4, hs4⟩ := h4
   have R11 := Lib.hid r4
   have T11 := Lib.hid u4
   clear r4 u4
   go_wp2_with fail
   go_ret
   exact EPost.mk rfl R11.out T11.out (by omega) hs4
 have b3 : isT [119, 104, 105, 108, 101] (hd (x.at p)) = false := by simpa using b3
 by_cases b4 : isT [114, 101, 116, 117, 114, 110] (hd (x.at p)) = true
 ·rw [rdS_4 b0 b1 b2 b3 b4, tail_at]
  obtain ⟨X, hX⟩ : ∃ X, endR 17 [] (rdE f 1 (x.at (p + 1))) = X := ⟨_, rfl⟩
  rw [hX]
  have hp2 := isT_lt b4
  have R0 := Lib.hid h
  have T0 := Lib.hid (RTo.refl x.g o w)
  clear h
  go_enter Tryz.func190, Tryz.ntmps190
  go_wp2_with fail
  refine (accept_no [108, 101, 116] _ R0.out b0).mono ?_
  rintro e v0 ⟨rfl, r1, u1⟩
  have R1 := Lib.hid r1
  have T1 := Lib.hid (T0.out.trans u1)
  clear r1 u1
  go_wp2_with fail
  refine (seesA_any _ R1.out.ts).mono ?_
  rw [b1]
  rintro e v1 ⟨rfl, rfl⟩
  have R2 := R1
  have T2 := T1
  go_wp2_with fail
  refine (accept_no [105, 102] _ R2.out b2).mono ?_
  rintro e v2 ⟨rfl, r3, u3⟩
  have R3 := Lib.hid r3
  have T3 := Lib.hid (T2.out.trans u3)
  clear r3 u3
  go_wp2_with fail
  refine (accept_no [119, 104, 105, 108, 101] _ R3.out b3).mono ?_
  rintro e v3 ⟨rfl, r4, u4⟩
  have R4 := Lib.hid r4
  have T4 := Lib.hid (T3.out.trans u4)
  clear r4 u4
  go_wp2_with fail
  refine (accept_yes [114, 101, 116, 117, 114, 110] _ R4.out b4).mono ?_
  rintro e v4 ⟨rfl, r, u⟩
  have T9 := Lib.hid (T4.out.trans u)
  have HG := Lib.hid (ending_any 17 [] v4 r p (by omega) f (by omega))
  rw [hX] at HG
  go_wp2_with fail
  refine HG.out.mono ?_
  intro e w3 h3
  have h4 := EPost.from T9.out h3
  clear h3 HG
  cases X with
  | bad r =>
   obtain ⟨rfl, H4⟩ := h4
   have H4c := Lib.hid H4
   clear H4
   go_wp2_with fail
   exact ⟨rfl, rfl, H4c.out⟩
  | ok t r =>
   obtain ⟨rfl, p4, o4, c4, r4, u4, rfl, hp4, hs4⟩ := h4
   have R11 := Lib.hid r4
   have T11 := Lib.hid u4
   clear r4 u4
   go_wp2_with fail
   go_ret
   exact EPost.mk rfl R11.out T11.out (by omega) hs4
 have b4 : isT [114, 101, 116, 117, 114, 110] (hd (x.at p)) = false := by simpa using b4
 rw [rdS_5 b0 b1 b2 b3 b4]
 obtain ⟨X, hX⟩ : ∃ X, endR 18 [] (rdE f 1 (x.at p)) = X := ⟨_, rfl⟩
 rw [hX]
 have R0 := Lib.hid h
 have T0 := Lib.hid (RTo.refl x.g o w)
 clear h
 go_enter Tryz.func190, Tryz.ntmps190
 go_wp2_with fail
 refine (accept_no [108, 101, 116] _ R0.out b0).mono ?_
 rintro e v0 ⟨rfl, r1, u1⟩
 have R1 := Lib.hid r1
 have T1 := Lib.hid (T0.out.trans u1)
 clear r1 u1
 go_wp2_with fail
 refine (seesA_any _ R1.out.ts).mono ?_
 rw [b1]
 rintro e v1 ⟨rfl, rfl⟩
 have R2 := R1
 have T2 := T1
 go_wp2_with fail
 refine (accept_no [105, 102] _ R2.out b2).mono ?_
 rintro e v2 ⟨rfl, r3, u3⟩
 have R3 := Lib.hid r3
 have T3 := Lib.hid (T2.out.trans u3)
 clear r3 u3
 go_wp2_with fail
 refine (accept_no [119, 104, 105, 108, 101] _ R3.out b3).mono ?_
 rintro e v3 ⟨rfl, r4, u4⟩
 have R4 := Lib.hid r4
 have T4 := Lib.hid (T3.out.trans u4)
 clear r4 u4
 go_wp2_with fail
 refine (accept_no [114, 101, 116, 117, 114, 110] _ R4.out b4).mono ?_
 rintro e v4 ⟨rfl, r5, u5⟩
 have R5 := Lib.hid r5
 have T5 := Lib.hid (T4.out.trans u5)
 clear r5 u5
 go_wp2_with fail
 have T9 := T5
 have HG := Lib.hid (ending_any 18 [] _ R5.out p (Nat.le_refl _) f (by omega))
 rw [hX] at HG
 go_wp2_with fail
 refine HG.out.mono ?_
 intro e w3 h3
 have h4 := EPost.from T9.out h3
 clear h3 HG
 cases X with
 | bad r =>
  obtain ⟨rfl, H4⟩ := h4
  have H4c := Lib.hid H4
  clear H4
  go_wp2_with fail
  exact ⟨rfl, rfl, H4c.out⟩
 | ok t r =>
  obtain ⟨rfl, p4, o4, c4, r4, u4, rfl, hp4, hs4⟩ := h4
  have R11 := Lib.hid r4
  have T11 := Lib.hid u4
  clear r4 u4
  go_wp2_with fail
  go_ret
  exact EPost.mk rfl R11.out T11.out (by omega) hs4
/-- Statements and blocks at a place. -/
theorem sb_any (x : Cx) : ∀ d p, x.T.length + 1 - p ≤ d → Rf x 190 rdS 12 p ∧ Rf x 137 rdB 1 p
 | 0, p, h => ⟨fun f _ S o n c L w hr => by have := hr.ts.pos; omega, fun f _ S o n c L w hr => by have := hr.ts.pos; omega⟩
 | d + 1, p, h => ⟨statement_any fun p' h' => (sb_any x d p' (by omega)).2, block_any fun p' h' => (sb_any x d p' (by omega)).1⟩
theorem block_all (x : Cx) (p : Nat) : Rf x 137 rdB 1 p := (sb_any x _ p (Nat.le_refl _)).2
end Syn
end Go.Proofs.YtmifookckpelaaaGreatDoor
