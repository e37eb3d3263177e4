/-
  Layer 8, texts merged: SzG, SzH, SzI. For every argument within the bounds that each theorem names.
-/
import Derived.Test.YtcapkeaedpabjaaGreatDoorYF4
set_option maxRecDepth 100000
set_option maxHeartbeats 16000000

/-
 Layer 8: branch and statement, as the program has them. Written by tools/genSzG.py.
-/
namespace Go.Proofs.YtcapkeaedpabjaaGreatDoor
open Go.RowKit Go.ChangeShapes Go.WideShapes
namespace Syn

theorem rdC_b1 {f : Nat} {k : Int} {r r' : List Ck} (h1 : rdE f 1 r = .bad r') : rdC (f + 1) k r = .bad r' := by rw [rdC,h1]
theorem rdC_b2 {f : Nat} {k : Int} {c : T} {r r1 r' : List Ck} (h1 : rdE f 1 r = .ok c r1) (h2 : rdB f r1 = .bad r') : rdC (f + 1) k r = .bad r' := by rw [rdC,h1]; simp only [h2]
theorem rdC_o {f : Nat} {k : Int} {c b : T} {r r1 r2 : List Ck} (h1 : rdE f 1 r = .ok c r1) (h2 : rdB f r1 = .ok b r2) (h3 : ¬ (k = 15 ∧ isT [101,108,115,101] (hd r2) = true)) : rdC (f + 1) k r = .ok (.node k [] 0 [] (.cons c (.cons b .nil))) r2 := by rw [rdC,h1]; simp only [h2]; rw [if_neg h3]
theorem rdC_b3 {f : Nat} {k : Int} {c b : T} {r r1 r2 r' : List Ck} (h1 : rdE f 1 r = .ok c r1) (h2 : rdB f r1 = .ok b r2) (h3 : k = 15 ∧ isT [101,108,115,101] (hd r2) = true) (h4 : rdB f r2.tail = .bad r') : rdC (f + 1) k r = .bad r' := by rw [rdC,h1]; simp only [h2]; rw [if_pos h3,h4]
theorem rdC_e {f : Nat} {k : Int} {c b d : T} {r r1 r2 r3 : List Ck} (h1 : rdE f 1 r = .ok c r1) (h2 : rdB f r1 = .ok b r2) (h3 : k = 15 ∧ isT [101,108,115,101] (hd r2) = true) (h4 : rdB f r2.tail = .ok d r3) : rdC (f + 1) k r = .ok (.node k [] 0 [] (.cons c (.cons b (.cons d .nil)))) r3 := by rw [rdC,h1]; simp only [h2]; rw [if_pos h3,h4]
theorem roots_two (n : Nat) (c b : T) : roots n (.cons c (.cons b .nil)) = [(n : Int) + (size c : Int) - 1,(n : Int) + (size c : Int) + (size b : Int) - 1] := by
 have h1 := size_pos c
 have h2 := size_pos b
 rw [roots,roots,roots]
 congr 1
 ·omega
 ·congr 1; omega
theorem flats_two (n : Nat) (c b : T) : flats n (.cons c (.cons b .nil)) = flat n c ++ flat (n + size c) b := by rw [flats,flats,flats,List.append_nil]
theorem sizes_two (c b : T) : sizes (.cons c (.cons b .nil)) = size c + size b := by rw [sizes,sizes,sizes,Nat.add_zero]
theorem gs_two {x : Cx} {S : Nat → Prop} {p p2 : Nat} {o o2 : Option Addr} {n c2 : Nat} {L : List Nd} {w w2 : World} {c b : T} (hsg : S x.g) (hsl : ∀ b,S b → b < w.heap.size) (hxb : x.g < x.base ∧ x.tb < x.base ∧ x.base ≤ w.heap.size) (r : RS x S p2 o2 (n + size c + size b) c2 (L ++ flat n c ++ flat (n + size c) b) w2) (t : RTo x.g o w o2 w2) (hs : size c + size b + p ≤ p2) (k : Int) (s : Txt) :
  (⟨false,S,p,n,o,L,w,w2.heap.size + 1,w2.heap.size + 1,w2.heap.size,k,s,0⟩ : Bx).Ok x ∧ GS x ⟨false,S,p,n,o,L,w,w2.heap.size + 1,w2.heap.size + 1,w2.heap.size,k,s,0⟩ [] (.cons c (.cons b .nil)) p2 o2 c2 none 0 (some ⟨w2.heap.size,0,none⟩) 2 ((w2.alloc (.cells #[.int .i64 ((n : Int) + (size c : Int) - 1),.int .i64 ((n : Int) + (size c : Int) + (size b : Int) - 1)] 3)).alloc (.cells #[.int .i64 k,.string ⟨s.toArray⟩,.int .i64 0,.slice none 0 0,.slice (some ⟨w2.heap.size,0,none⟩) 2 2] 65)) := by
 have e1 : (w2.alloc (.cells #[.int .i64 ((n : Int) + (size c : Int) - 1),.int .i64 ((n : Int) + (size c : Int) + (size b : Int) - 1)] 3)).heap.size = w2.heap.size + 1 := by show (w2.heap.push _).size = _; simp
 have hk := heap_new w2 (.cells #[.int .i64 ((n : Int) + (size c : Int) - 1),.int .i64 ((n : Int) + (size c : Int) + (size b : Int) - 1)] 3)
 obtain ⟨V,hV⟩ : ∃ V,w2.alloc (.cells #[.int .i64 ((n : Int) + (size c : Int) - 1),.int .i64 ((n : Int) + (size c : Int) + (size b : Int) - 1)] 3) = V := ⟨_,rfl⟩
 have B1 : Bel w2 V := by rw [← hV]; exact Bel.alloc (Bel.refl w2) _
 rw [hV] at e1 hk ⊢
 have B2 := Bel.alloc (Bel.refl V) (.cells #[.int .i64 k,.string ⟨s.toArray⟩,.int .i64 0,.slice none 0 0,.slice (some ⟨w2.heap.size,0,none⟩) 2 2] 65)
 obtain ⟨y0,y1,y2,y3,y4⟩ := box5 V (.int .i64 k) (.string ⟨s.toArray⟩) (.int .i64 0) (.slice none 0 0) (.slice (some ⟨w2.heap.size,0,none⟩) 2 2) 65
 have hfz : ∀ j,(V.alloc (.cells #[.int .i64 k,.string ⟨s.toArray⟩,.int .i64 0,.slice none 0 0,.slice (some ⟨w2.heap.size,0,none⟩) 2 2] 65)).frozen? ⟨V.heap.size,j,none⟩ = false := fun j => World.frozen?_alloc_new _ _ _ _
 have hsz := alloc_lt V (.cells #[.int .i64 k,.string ⟨s.toArray⟩,.int .i64 0,.slice none 0 0,.slice (some ⟨w2.heap.size,0,none⟩) 2 2] 65)
 obtain ⟨U,hU⟩ : ∃ U,V.alloc (.cells #[.int .i64 k,.string ⟨s.toArray⟩,.int .i64 0,.slice none 0 0,.slice (some ⟨w2.heap.size,0,none⟩) 2 2] 65) = U := ⟨_,rfl⟩
 rw [hU] at B2 y0 y1 y2 y3 y4 hfz hsz ⊢
 rw [e1] at y0 y1 y2 y3 y4 hfz hsz
 have B := B1.trans B2
 have hkU : U.heap[w2.heap.size]? = some (.cells #[.int .i64 ((n : Int) + (size c : Int) - 1),.int .i64 ((n : Int) + (size c : Int) + (size b : Int) - 1)] 3) := (B2.block _ (by omega)).trans hk
 have hblk : ∀ q,Blk (some (⟨w2.heap.size,0,none⟩ : Addr)) q → q = w2.heap.size := fun q ⟨_,z⟩ => by simp only [Option.some.injEq,Addr.mk.injEq] at z; exact z.1.symm
 have hw := t.mod.size
 refine ⟨⟨fun e => (by cases e),hw,⟨by show w.heap.size ≤ w2.heap.size + 1; omega,by show w.heap.size ≤ w2.heap.size + 1; omega⟩,hxb,hsg,hsl⟩,⟨?_,t.bel B,⟨y0,y1,y2,y3,by show _ = some (Value.slice _ (count _) 2); rw [count,count,count]; exact y4,hfz⟩,fun e => (by cases e),World.ownsRow_nil _ _ _ _,?_,fun b ⟨_,q⟩ => (by cases q),(by show sizes _ + p ≤ p2; rw [sizes_two]; exact hs),(by show w2.heap.size ≤ U.heap.size; omega),fun q hq => ?_,hsz⟩⟩
 ·show RS x _ p2 o2 (n + sizes _) c2 (L ++ flats n _) U
  rw [sizes_two,flats_two,← List.append_assoc,← Nat.add_assoc]
  refine r.wide B (fun q hq => ?_) (fun q hq => ?_) (Or.inl hsg)
  ·rcases hq with q1 | rfl | rfl | ⟨_,q1⟩ | q1
   ·exact Or.inl q1
   ·exact Or.inr (by show w2.heap.size ≤ w2.heap.size + 1; omega)
   ·exact Or.inr (by show w2.heap.size ≤ w2.heap.size + 1; omega)
   ·cases q1
   ·exact Or.inr (by rw [hblk q q1]; exact Nat.le_refl _)
  ·rcases hq with q1 | rfl | rfl | ⟨_,q1⟩ | q1
   ·exact Nat.lt_of_lt_of_le (r.sl q q1).1 B.size
   ·exact hsz
   ·exact hsz
   ·cases q1
   ·rw [hblk q q1]; omega
 ·show U.ownsRow w2.heap.size 3 1 (.slice (some ⟨w2.heap.size,0,none⟩) (count _) 2) (count _) (encZ (roots n _))
  rw [roots_two,count,count,count]
  refine ⟨rfl,Or.inr ⟨w2.heap.size,2,_,rfl,Nat.le_refl _,hkU,by decide,by unfold maxLen; decide,rfl,rfl⟩⟩
 ·rcases hq with ⟨_,q1⟩ | q1
  ·cases q1
  ·have := hblk q q1
   show q ≠ w2.heap.size + 1 ∧ q ≠ w2.heap.size + 1
   omega
theorem branch_16 {x : Cx} {S : Nat → Prop} {p : Nat} {o : Option Addr} {n c : Nat} {L : List Nd} (w : World) (h : RS x S p o n c L w) (hn : n + 1 ≤ p) (q : Nat) (hq : q + 1 ≤ p) (hB : ∀ p',p < p' → Rf x 125 rdB 1 p') (f : Nat) (hf : 20 * (x.T.length - p) + 12 ≤ f) :
  Calls Tryz.prog 235 #[.pointer (some ⟨x.g,0,none⟩),.int .i64 16] w (EPost x S p q n o L (rdC f 16 (x.at p)) w) := by
 obtain ⟨f,rfl⟩ : ∃ g,f = g + 1 := ⟨f - 1,by omega⟩
 have HE := Lib.hid (expr_all x p f (by omega) S o n c L w h)
 have HB := Lib.hid hB
 have Hsg := Lib.hid h.sg
 have Hsl : Hid (∀ b,S b → b < w.heap.size) := Lib.hid fun b hb => (h.sl b hb).1
 have Hxb := Lib.hid h.lt
 obtain ⟨X,hX⟩ : ∃ X,rdC (f + 1) 16 (x.at p) = X := ⟨_,rfl⟩
 have HX := Lib.hid hX
 rw [hX]
 clear h hB hX
 go_enter Tryz.func235,Tryz.ntmps235
 go_wp2_with fail
 refine HE.out.mono ?_
 intro e w1 h1
 clear HE
 cases hg1 : rdE f 1 (x.at p) with
 | bad r =>
  rw [hg1] at h1
  obtain ⟨rfl,H9⟩ := h1
  have hz : Hid (X = .bad r) := Lib.hid (by rw [← HX.out,rdC_b1 hg1])
  have H9c := Lib.hid H9
  clear H9
  go_wp2_with fail
  rw [hz.out]
  exact ⟨rfl,rfl,H9c.out⟩
 | ok cT r =>
  rw [hg1] at h1
  obtain ⟨rfl,p1,o1,c1,r1,t1,rfl,hp1,hs1⟩ := h1
  have HBk := Lib.hid (HB.out p1 hp1 f (by have := r1.ts.pos; omega) S _ _ _ _ w1 r1)
  have T1 := Lib.hid t1
  have q1 := r1.ts.pos
  have Hg1 := Lib.hid hg1
  clear r1 t1 hg1
  go_wp2_with fail
  refine HBk.out.mono ?_
  intro e w2 h2
  have h2 := EPost.from T1.out h2
  clear HBk
  cases hg2 : rdB f (x.at p1) with
  | bad r =>
   rw [hg2] at h2
   obtain ⟨rfl,H9⟩ := h2
   have hz : Hid (X = .bad r) := Lib.hid (by rw [← HX.out,rdC_b2 Hg1.out hg2])
   have H9c := Lib.hid H9
   clear H9
   go_wp2_with fail
   rw [hz.out]
   exact ⟨rfl,rfl,H9c.out⟩
  | ok bT r =>
   rw [hg2] at h2
   obtain ⟨rfl,p2,o2,c2,r2,t2,rfl,hp2,hs2⟩ := h2
   have Hg2 := Lib.hid hg2
   have q2 := r2.ts.pos
   obtain ⟨ok,g3⟩ := gs_two (p := p) Hsg.out Hsl.out Hxb.out r2 t2 (by omega) 16 []
   obtain ⟨W3,hW3⟩ : ∃ W3,(w2.alloc (.cells #[.int .i64 ((n : Int) + (size cT : Int) - 1),.int .i64 ((n : Int) + (size cT : Int) + (size bT : Int) - 1)] 3)).alloc (.cells #[.int .i64 16,.string ⟨#[]⟩,.int .i64 0,.slice none 0 0,.slice (some ⟨w2.heap.size,0,none⟩) 2 2] 65) = W3 := ⟨_,rfl⟩
   have g3 : GS x ⟨false,S,p,n,o,L,w,w2.heap.size + 1,w2.heap.size + 1,w2.heap.size,16,[],0⟩ [] (.cons cT (.cons bT .nil)) p2 o2 c2 none 0 (some ⟨w2.heap.size,0,none⟩) 2 W3 := by rw [← hW3]; exact g3
   obtain ⟨y,hy⟩ : ∃ y : Bx,(⟨false,S,p,n,o,L,w,w2.heap.size + 1,w2.heap.size + 1,w2.heap.size,16,[],0⟩ : Bx) = y := ⟨_,rfl⟩
   rw [hy] at g3 ok
   have HY := Lib.hid hy
   have OK := Lib.hid ok
   have G3 := Lib.hid g3
   have Hw := Lib.hid hW3
   clear r2 t2 hg2 hy ok g3 hW3
   have hz : Hid (X = .ok (.node 16 [] 0 [] (.cons cT (.cons bT .nil))) (x.at p2)) := Lib.hid (by rw [← HX.out,rdC_o Hg1.out Hg2.out (fun e => absurd e.1 (by decide))])
   have g4 := G3.out
   have HF := Lib.hid (fin_any W3 g4 OK.out (by rw [← HY.out]; exact hn))
   have e1 := g4.box.k
   have e2 := g4.box.s
   have e3 := g4.box.i
   have e4 := g4.box.ks
   have e5 := g4.box.js
   have hsz := g4.sz
   have hyy := HY.out
   subst hyy
   dsimp only at e1 e2 e3 e4 e5 hsz HF
   simp only [List.length_nil,count,Nat.zero_add,Nat.reduceAdd] at e4 e5 HF
   clear g4
   rw [← Hw.out] at e1 e2 e3 e4 e5
   go_wp2_with fail
   rw [Hw.out]
   refine HF.out.mono ?_
   rintro e w7 ⟨rfl,o7,c7,r7,u7⟩
   have R7 := Lib.hid r7
   have T7 := Lib.hid u7
   clear r7 u7
   go_wp2_with fail
   go_ret
   rw [hz.out]
   exact EPost.mk (p := p) (q := q) (p' := p2) (t := .node 16 [] 0 [] (.cons cT (.cons bT .nil))) (o' := o7) (c' := c7) (by rw [size] <;> omega) R7.out T7.out (by omega) (by rw [size]; omega)
theorem branch_15 {x : Cx} {S : Nat → Prop} {p : Nat} {o : Option Addr} {n c : Nat} {L : List Nd} (w : World) (h : RS x S p o n c L w) (hn : n + 1 ≤ p) (q : Nat) (hq : q + 1 ≤ p) (hB : ∀ p',p < p' → Rf x 125 rdB 1 p') (f : Nat) (hf : 20 * (x.T.length - p) + 12 ≤ f) :
  Calls Tryz.prog 235 #[.pointer (some ⟨x.g,0,none⟩),.int .i64 15] w (EPost x S p q n o L (rdC f 15 (x.at p)) w) := by
 obtain ⟨f,rfl⟩ : ∃ g,f = g + 1 := ⟨f - 1,by omega⟩
 have HE := Lib.hid (expr_all x p f (by omega) S o n c L w h)
 have HB := Lib.hid hB
 have Hsg := Lib.hid h.sg
 have Hsl : Hid (∀ b,S b → b < w.heap.size) := Lib.hid fun b hb => (h.sl b hb).1
 have Hxb := Lib.hid h.lt
 obtain ⟨X,hX⟩ : ∃ X,rdC (f + 1) 15 (x.at p) = X := ⟨_,rfl⟩
 have HX := Lib.hid hX
 rw [hX]
 clear h hB hX
 go_enter Tryz.func235,Tryz.ntmps235
 go_wp2_with fail
 refine HE.out.mono ?_
 intro e w1 h1
 clear HE
 cases hg1 : rdE f 1 (x.at p) with
 | bad r =>
  rw [hg1] at h1
  obtain ⟨rfl,H9⟩ := h1
  have hz : Hid (X = .bad r) := Lib.hid (by rw [← HX.out,rdC_b1 hg1])
  have H9c := Lib.hid H9
  clear H9
  go_wp2_with fail
  rw [hz.out]
  exact ⟨rfl,rfl,H9c.out⟩
 | ok cT r =>
  rw [hg1] at h1
  obtain ⟨rfl,p1,o1,c1,r1,t1,rfl,hp1,hs1⟩ := h1
  have HBk := Lib.hid (HB.out p1 hp1 f (by have := r1.ts.pos; omega) S _ _ _ _ w1 r1)
  have T1 := Lib.hid t1
  have q1 := r1.ts.pos
  have Hg1 := Lib.hid hg1
  clear r1 t1 hg1
  go_wp2_with fail
  refine HBk.out.mono ?_
  intro e w2 h2
  have h2 := EPost.from T1.out h2
  clear HBk
  cases hg2 : rdB f (x.at p1) with
  | bad r =>
   rw [hg2] at h2
   obtain ⟨rfl,H9⟩ := h2
   have hz : Hid (X = .bad r) := Lib.hid (by rw [← HX.out,rdC_b2 Hg1.out hg2])
   have H9c := Lib.hid H9
   clear H9
   go_wp2_with fail
   rw [hz.out]
   exact ⟨rfl,rfl,H9c.out⟩
  | ok bT r =>
   rw [hg2] at h2
   obtain ⟨rfl,p2,o2,c2,r2,t2,rfl,hp2,hs2⟩ := h2
   have Hg2 := Lib.hid hg2
   have q2 := r2.ts.pos
   obtain ⟨ok,g3⟩ := gs_two (p := p) Hsg.out Hsl.out Hxb.out r2 t2 (by omega) 15 []
   obtain ⟨W3,hW3⟩ : ∃ W3,(w2.alloc (.cells #[.int .i64 ((n : Int) + (size cT : Int) - 1),.int .i64 ((n : Int) + (size cT : Int) + (size bT : Int) - 1)] 3)).alloc (.cells #[.int .i64 15,.string ⟨#[]⟩,.int .i64 0,.slice none 0 0,.slice (some ⟨w2.heap.size,0,none⟩) 2 2] 65) = W3 := ⟨_,rfl⟩
   have g3 : GS x ⟨false,S,p,n,o,L,w,w2.heap.size + 1,w2.heap.size + 1,w2.heap.size,15,[],0⟩ [] (.cons cT (.cons bT .nil)) p2 o2 c2 none 0 (some ⟨w2.heap.size,0,none⟩) 2 W3 := by rw [← hW3]; exact g3
   obtain ⟨y,hy⟩ : ∃ y : Bx,(⟨false,S,p,n,o,L,w,w2.heap.size + 1,w2.heap.size + 1,w2.heap.size,15,[],0⟩ : Bx) = y := ⟨_,rfl⟩
   rw [hy] at g3 ok
   have HY := Lib.hid hy
   have OK := Lib.hid ok
   have G3 := Lib.hid g3
   have Hw := Lib.hid hW3
   clear r2 t2 hg2 hy ok g3 hW3
   cases hb : isT [101,108,115,101] (hd (x.at p2)) with
   | false =>
    have hz : Hid (X = .ok (.node 15 [] 0 [] (.cons cT (.cons bT .nil))) (x.at p2)) := Lib.hid (by rw [← HX.out,rdC_o Hg1.out Hg2.out (by rw [hb]; decide)])
    have HA := Lib.hid (accept_no [101,108,115,101] W3 G3.out.rs hb)
    clear hb
    go_wp2_with fail
    rw [Hw.out]
    refine HA.out.mono ?_
    rintro e w5 ⟨rfl,r5,u5⟩
    have g4 := G3.out.step OK.out u5 r5 (Nat.le_refl _)
    clear r5 u5 HA G3 Hw
    have HF := Lib.hid (fin_any w5 g4 OK.out (by rw [← HY.out]; exact hn))
    have e1 := g4.box.k
    have e2 := g4.box.s
    have e3 := g4.box.i
    have e4 := g4.box.ks
    have e5 := g4.box.js
    have hsz := g4.sz
    have hyy := HY.out
    subst hyy
    dsimp only at e1 e2 e3 e4 e5 hsz HF
    simp only [List.length_nil,count,Nat.zero_add,Nat.reduceAdd] at e4 e5 HF
    clear g4
    go_wp2_with fail
    refine HF.out.mono ?_
    rintro e w7 ⟨rfl,o7,c7,r7,u7⟩
    have R7 := Lib.hid r7
    have T7 := Lib.hid u7
    clear r7 u7
    go_wp2_with fail
    go_ret
    rw [hz.out]
    exact EPost.mk (p := p) (q := q) (p' := p2) (t := .node 15 [] 0 [] (.cons cT (.cons bT .nil))) (o' := o7) (c' := c7) (by rw [size] <;> omega) R7.out T7.out (by omega) (by rw [size]; omega)
   | true =>
    have HA := Lib.hid (accept_yes [101,108,115,101] W3 G3.out.rs hb)
    have hlt := isT_lt hb
    have Hb := Lib.hid hb
    clear hb
    go_wp2_with fail
    rw [Hw.out]
    refine HA.out.mono ?_
    rintro e w5 ⟨rfl,r5,u5⟩
    have g5 := G3.out.step OK.out u5 r5 (Nat.le_succ _)
    clear r5 u5 HA G3 Hw
    have ybn : Hid (y.bn = w2.heap.size + 1) := Lib.hid (by rw [← HY.out])
    have d4 := g5.box.js
    have f4 := g5.box.fz 4
    have hbn : y.bn < w5.heap.size := g5.box.lt
    rw [ybn.out] at d4 f4 hbn
    have ok := OK.out
    have hE := HB.out (p2 + 1) (by omega) f (by omega)
    cases hg : rdB f (x.at (p2 + 1)) with
    | bad r =>
     have HC2 := Lib.hid (kid_bad ok g5 hE hg)
     have hz2 : Hid (X = .bad r) := Lib.hid (by rw [← HX.out,rdC_b3 Hg1.out Hg2.out ⟨rfl,Hb.out⟩ (by rw [tail_at]; exact hg)])
     have hyo : Hid (y.o = o ∧ y.w = w) := Lib.hid (by rw [← HY.out]; exact ⟨rfl,rfl⟩)
     simp only [count,Nat.zero_add,Nat.reduceAdd] at d4
     clear g5 ok hE hg
     go_upto_region 4 with (fail)
     refine wp_region_held_drew (S := fun W => W.cell? ⟨w2.heap.size + 1,4,none⟩ = some (.slice (some ⟨w2.heap.size,0,none⟩) 2 2)) (by kernel_rfl) d4 (fun hH => ?_)
     refine wpAnyH_take (i := 0) (v := ?_) rfl (by kernel_rfl) (by kernel_rfl) (by kernel_rfl) (fun _ _ _ h => h) (Or.inl ⟨by rfl,?_⟩) (by assumption) ?_
     rotate_left 1
     ·intro w hSw
      go_simp
      with_reducible rfl
     refine wpAnyH_take (i := 1) (v := ?_) rfl (by kernel_rfl) (by kernel_rfl) (by kernel_rfl) (fun _ _ _ h => h) (Or.inl ⟨by rfl,?_⟩) (by assumption) ?_
     rotate_left 1
     ·intro w hSw
      have q := hSw
      go_simp
      with_reducible rfl
     refine wpAnyH_take (i := 2) (v := ?_) rfl (by kernel_rfl) (by kernel_rfl) (by kernel_rfl) (fun _ _ _ h => h) (Or.inl ⟨by rfl,?_⟩) (by assumption) ?_
     rotate_left 1
     ·intro w hSw
      go_simp
      with_reducible rfl
     refine wpAnyH_ready (rs := [3]) (by kernel_rfl) (by simp) ?_
     refine AllReadyH.cons rfl (fun K hK => ?_) AllReadyH.nil
     go_simp
     refine HC2.out.mono ?_
     rintro e w9 ⟨rfl,hS⟩
     have hS2 := hS.out
     unfold GPn at hS2
     rw [hyo.out.1,hyo.out.2] at hS2
     refine ⟨rfl,?_⟩
     show EPost x S p q n o L X w _ w9
     rw [hz2.out]
     exact hS2
    | ok t r =>
     obtain ⟨i0,hi0,hz0,hz1,hz2⟩ := info_parts info_int
     have Hi0 := Lib.hid hi0
     have Hz0 := Lib.hid hz0
     have Hz1 := Lib.hid hz1
     have Hz2 := Lib.hid hz2
     have HC2 := Lib.hid (kid_ok ok g5 hE hg)
     unfold KidOk at HC2
     rw [ybn.out] at HC2
     simp only [count,Nat.zero_add,Nat.reduceAdd] at HC2 d4
     have hz : Hid (X = .ok (.node 15 [] 0 [] (.cons cT (.cons bT (.cons t .nil)))) r) := Lib.hid (by rw [← HX.out,rdC_e Hg1.out Hg2.out ⟨rfl,Hb.out⟩ (by rw [tail_at]; exact hg)])
     have hml : Hid (2 + 1 ≤ maxLen) := Lib.hid (by unfold maxLen; omega)
     have hml2 : Hid ((2 + 1) * 8 ≤ 140737488355328) := Lib.hid (by omega)
     obtain ⟨a,ha⟩ : ∃ a,Ts.cons cT (.cons bT .nil) = a := ⟨_,rfl⟩
     rw [ha] at HC2
     have Ha := Lib.hid ha
     have hnw : Hid (∀ W' W'' : World,W''.heap[W'.heap.size]? = some (.cells #[.int .i64 ((y.n : Int) + (sizes a : Int) + (size t : Int) - 1)] 3) → ∀ j u,[.int .i64 ((y.n : Int) + (sizes a : Int) + (size t : Int) - 1)][j]? = some u → W''.cell? ((⟨W'.heap.size,0,none⟩ : Addr).add j) = some u) := Lib.hid fun W' W'' hW' => World.news_of_block (cs := #[.int .i64 ((y.n : Int) + (sizes a : Int) + (size t : Int) - 1)]) (t := 3) (fr := (0,0)) hW'
     clear hE hg g5 ok ha
     go_upto_region 4 with (fail)
     go_cut [] (fun wx => Hid (∃ p1,GSt x y [] (snoc a t) p1 wx ∧ r = x.at p1 ∧ p2 + 1 < p1))
     case first =>
      go_region_law (first | (refine step_append_lies _ (by rfl) _ _ _ (by rfl) y.kb 3 i0 _ 1 8 Tryz.underlying38 Hi0.out Hz0.out Hz1.out Hz2.out rfl (by omega) _ _ _ (by rfl) (hK1.out _ (by repeat (first | exact Bel.refl _ | refine Below.drew ?_ | refine Bel.alloc ?_ _))).1 ⟨w9.heap.size,0,none⟩ 1 1 [.int .i64 ((y.n : Int) + (sizes a : Int) + (size t : Int) - 1)] (by rfl) (by rfl) (hnw.out w9 _ (heap_new w9 _)) (by simp [Value.oneCell']) (by omega) hml.out hml2.out (hK1.out _ (by repeat (first | exact Bel.refl _ | refine Below.drew ?_ | refine Bel.alloc ?_ _))).2 _ rfl ?_; intro gg cap w8 hown3 hgrow hat hlt'; obtain ⟨d5,g5⟩ := hK2.out _ w8 (by repeat (first | exact Bel.refl _ | refine Below.drew ?_ | refine Bel.alloc ?_ _)) hgrow) | (go_simp; go_at_call 125; (with_reducible refine HC2.out.mono ?_); rintro e w9 ⟨rfl,d6,g6,_,hb2,hK1,hK2,hK3⟩))
      all_goals
       have k1 := hK3.out _ w8 gg cap (by repeat (first | exact Bel.refl _ | refine Below.drew ?_ | refine Bel.alloc ?_ _)) hown3 hgrow hat
       go_wp2_with fail
       go_meet
       exact Lib.hid k1
     case rest =>
      obtain ⟨p4,⟨o4,c4,qo4,qc4,ko4,kc4,g4⟩,rfl,hp4⟩ := hcut.out
      have ha := Ha.out
      subst ha
      have hp4T := g4.rs.ts.pos
      clear d4 f4 hbn HC2 hnw
      have HF := Lib.hid (fin_any wc g4 OK.out (by rw [← HY.out]; exact hn))
      have e1 := g4.box.k
      have e2 := g4.box.s
      have e3 := g4.box.i
      have e4 := g4.box.ks
      have e5 := g4.box.js
      have hsz := g4.sz
      rw [show sizes (snoc (.cons cT (.cons bT .nil)) t) = sizes (.cons cT (.cons bT (.cons t .nil))) from rfl] at hsz
      have hyy := HY.out
      subst hyy
      dsimp only at e1 e2 e3 e4 e5 hsz HF
      simp only [List.length_nil,snoc,app,count,Nat.zero_add,Nat.reduceAdd] at e4 e5 HF
      clear g4
      go_wp2_with fail
      refine HF.out.mono ?_
      rintro e w7 ⟨rfl,o7,c7,r7,u7⟩
      have R7 := Lib.hid r7
      have T7 := Lib.hid u7
      clear r7 u7
      go_wp2_with fail
      go_ret
      rw [hz.out]
      exact EPost.mk (p := p) (q := q) (p' := p4) (t := .node 15 [] 0 [] (.cons cT (.cons bT (.cons t .nil)))) (o' := o7) (c' := c7) (by rw [size] <;> omega) R7.out T7.out (by omega) (by rw [size]; omega)

theorem rdS_0 {f : Nat} {r : List Ck}  (b0 : isT [108,101,116] (hd r) = true) : rdS (f + 1) r = rdA f 13 r.tail := by rw [rdS,if_pos b0]
theorem rdS_1 {f : Nat} {r : List Ck} (b0 : isT [108,101,116] (hd r) = false) (b1 : setB r = true) : rdS (f + 1) r = rdA f 14 r := by rw [rdS,if_neg (by rw [b0]; decide),if_pos b1]
theorem rdS_2 {f : Nat} {r : List Ck} (b0 : isT [108,101,116] (hd r) = false) (b1 : setB r = false) (b2 : isT [105,102] (hd r) = true) : rdS (f + 1) r = rdC f 15 r.tail := by rw [rdS,if_neg (by rw [b0]; decide),if_neg (by rw [b1]; decide),if_pos b2]
theorem rdS_3 {f : Nat} {r : List Ck} (b0 : isT [108,101,116] (hd r) = false) (b1 : setB r = false) (b2 : isT [105,102] (hd r) = false) (b3 : isT [119,104,105,108,101] (hd r) = true) : rdS (f + 1) r = rdC f 16 r.tail := by rw [rdS,if_neg (by rw [b0]; decide),if_neg (by rw [b1]; decide),if_neg (by rw [b2]; decide),if_pos b3]
theorem rdS_4 {f : Nat} {r : List Ck} (b0 : isT [108,101,116] (hd r) = false) (b1 : setB r = false) (b2 : isT [105,102] (hd r) = false) (b3 : isT [119,104,105,108,101] (hd r) = false) (b4 : isT [114,101,116,117,114,110] (hd r) = true) : rdS (f + 1) r = endR 17 [] (rdE f 1 r.tail) := by rw [rdS,if_neg (by rw [b0]; decide),if_neg (by rw [b1]; decide),if_neg (by rw [b2]; decide),if_neg (by rw [b3]; decide),if_pos b4,rdN_end]
theorem rdS_5 {f : Nat} {r : List Ck} (b0 : isT [108,101,116] (hd r) = false) (b1 : setB r = false) (b2 : isT [105,102] (hd r) = false) (b3 : isT [119,104,105,108,101] (hd r) = false) (b4 : isT [114,101,116,117,114,110] (hd r) = false) : rdS (f + 1) r = endR 18 [] (rdE f 1 r) := by rw [rdS,if_neg (by rw [b0]; decide),if_neg (by rw [b1]; decide),if_neg (by rw [b2]; decide),if_neg (by rw [b3]; decide),if_neg (by rw [b4]; decide),rdN_end]
theorem statement_any {x : Cx} {p : Nat} (hB : ∀ p',p < p' → Rf x 125 rdB 1 p') : Rf x 180 rdS 12 p := by
 intro f hf S o n c L w h
 obtain ⟨f,rfl⟩ : ∃ g,f = g + 1 := ⟨f - 1,by omega⟩
 have hnp := h.np
 by_cases b0 : isT [108,101,116] (hd (x.at p)) = true
 ·rw [rdS_0 b0,tail_at]
  obtain ⟨X,hX⟩ : ∃ X,rdA f 13 (x.at (p + 1)) = X := ⟨_,rfl⟩
  rw [hX]
  have hp2 := isT_lt b0
  have R0 := Lib.hid h
  have T0 := Lib.hid (RTo.refl x.g o w)
  clear h
  go_enter Tryz.func180,Tryz.ntmps180
  go_wp2_with fail
  refine (accept_yes [108,101,116] _ R0.out b0).mono ?_
  rintro e v0 ⟨rfl,r,u⟩
  have T9 := Lib.hid (T0.out.trans u)
  have HG := Lib.hid (assign_any 13 v0 r p (by omega) f (by omega))
  rw [hX] at HG
  go_wp2_with fail
  refine HG.out.mono ?_
  intro e w3 h3
  have h4 := EPost.from T9.out h3
  clear h3 HG
  cases X with
  | bad r =>
   obtain ⟨rfl,H4⟩ := h4
   have H4c := Lib.hid H4
   clear H4
   go_wp2_with fail
   exact ⟨rfl,rfl,H4c.out⟩
  | ok t r =>
   obtain ⟨rfl,p4,o4,c4,r4,u4,rfl,hp4,hs4⟩ := h4
   have R11 := Lib.hid r4
   have T11 := Lib.hid u4
   clear r4 u4
   go_wp2_with fail
   go_ret
   exact EPost.mk rfl R11.out T11.out (by omega) hs4
 have b0 : isT [108,101,116] (hd (x.at p)) = false := by simpa using b0
 by_cases b1 : setB (x.at p) = true
 ·rw [rdS_1 b0 b1]
  obtain ⟨X,hX⟩ : ∃ X,rdA f 14 (x.at p) = X := ⟨_,rfl⟩
  rw [hX]
  have R0 := Lib.hid h
  have T0 := Lib.hid (RTo.refl x.g o w)
  clear h
  go_enter Tryz.func180,Tryz.ntmps180
  go_wp2_with fail
  refine (accept_no [108,101,116] _ R0.out b0).mono ?_
  rintro e v0 ⟨rfl,r1,u1⟩
  have R1 := Lib.hid r1
  have T1 := Lib.hid (T0.out.trans u1)
  clear r1 u1
  go_wp2_with fail
  refine (seesA_any _ R1.out.ts).mono ?_
  rw [b1]
  rintro e v1 ⟨rfl,rfl⟩
  have T9 := T1
  have HG := Lib.hid (assign_any 14 v1 R1.out p (Nat.le_refl _) f (by omega))
  rw [hX] at HG
  go_wp2_with fail
  refine HG.out.mono ?_
  intro e w3 h3
  have h4 := EPost.from T9.out h3
  clear h3 HG
  cases X with
  | bad r =>
   obtain ⟨rfl,H4⟩ := h4
   have H4c := Lib.hid H4
   clear H4
   go_wp2_with fail
   exact ⟨rfl,rfl,H4c.out⟩
  | ok t r =>
   obtain ⟨rfl,p4,o4,c4,r4,u4,rfl,hp4,hs4⟩ := h4
   have R11 := Lib.hid r4
   have T11 := Lib.hid u4
   clear r4 u4
   go_wp2_with fail
   go_ret
   exact EPost.mk rfl R11.out T11.out (by omega) hs4
 have b1 : setB (x.at p) = false := by simpa using b1
 by_cases b2 : isT [105,102] (hd (x.at p)) = true
 ·rw [rdS_2 b0 b1 b2,tail_at]
  obtain ⟨X,hX⟩ : ∃ X,rdC f 15 (x.at (p + 1)) = X := ⟨_,rfl⟩
  rw [hX]
  have hp2 := isT_lt b2
  have R0 := Lib.hid h
  have T0 := Lib.hid (RTo.refl x.g o w)
  clear h
  go_enter Tryz.func180,Tryz.ntmps180
  go_wp2_with fail
  refine (accept_no [108,101,116] _ R0.out b0).mono ?_
  rintro e v0 ⟨rfl,r1,u1⟩
  have R1 := Lib.hid r1
  have T1 := Lib.hid (T0.out.trans u1)
  clear r1 u1
  go_wp2_with fail
  refine (seesA_any _ R1.out.ts).mono ?_
  rw [b1]
  rintro e v1 ⟨rfl,rfl⟩
  have R2 := R1
  have T2 := T1
  go_wp2_with fail
  refine (accept_yes [105,102] _ R2.out b2).mono ?_
  rintro e v2 ⟨rfl,r,u⟩
  have T9 := Lib.hid (T2.out.trans u)
  have HG := Lib.hid (branch_15 v2 r (by omega) p (by omega) (fun p' hp' => hB p' (by omega)) f (by omega))
  rw [hX] at HG
  go_wp2_with fail
  refine HG.out.mono ?_
  intro e w3 h3
  have h4 := EPost.from T9.out h3
  clear h3 HG
  cases X with
  | bad r =>
   obtain ⟨rfl,H4⟩ := h4
   have H4c := Lib.hid H4
   clear H4
   go_wp2_with fail
   exact ⟨rfl,rfl,H4c.out⟩
  | ok t r =>
   obtain ⟨rfl,p4,o4,c4,r4,u4,rfl,hp4,hs4⟩ := h4
   have R11 := Lib.hid r4
   have T11 := Lib.hid u4
   clear r4 u4
   go_wp2_with fail
   go_ret
   exact EPost.mk rfl R11.out T11.out (by omega) hs4
 have b2 : isT [105,102] (hd (x.at p)) = false := by simpa using b2
 by_cases b3 : isT [119,104,105,108,101] (hd (x.at p)) = true
 ·rw [rdS_3 b0 b1 b2 b3,tail_at]
  obtain ⟨X,hX⟩ : ∃ X,rdC f 16 (x.at (p + 1)) = X := ⟨_,rfl⟩
  rw [hX]
  have hp2 := isT_lt b3
  have R0 := Lib.hid h
  have T0 := Lib.hid (RTo.refl x.g o w)
  clear h
  go_enter Tryz.func180,Tryz.ntmps180
  go_wp2_with fail
  refine (accept_no [108,101,116] _ R0.out b0).mono ?_
  rintro e v0 ⟨rfl,r1,u1⟩
  have R1 := Lib.hid r1
  have T1 := Lib.hid (T0.out.trans u1)
  clear r1 u1
  go_wp2_with fail
  refine (seesA_any _ R1.out.ts).mono ?_
  rw [b1]
  rintro e v1 ⟨rfl,rfl⟩
  have R2 := R1
  have T2 := T1
  go_wp2_with fail
  refine (accept_no [105,102] _ R2.out b2).mono ?_
  rintro e v2 ⟨rfl,r3,u3⟩
  have R3 := Lib.hid r3
  have T3 := Lib.hid (T2.out.trans u3)
  clear r3 u3
  go_wp2_with fail
  refine (accept_yes [119,104,105,108,101] _ R3.out b3).mono ?_
  rintro e v3 ⟨rfl,r,u⟩
  have T9 := Lib.hid (T3.out.trans u)
  have HG := Lib.hid (branch_16 v3 r (by omega) p (by omega) (fun p' hp' => hB p' (by omega)) f (by omega))
  rw [hX] at HG
  go_wp2_with fail
  refine HG.out.mono ?_
  intro e w3 h3
  have h4 := EPost.from T9.out h3
  clear h3 HG
  cases X with
  | bad r =>
   obtain ⟨rfl,H4⟩ := h4
   have H4c := Lib.hid H4
   clear H4
   go_wp2_with fail
   exact ⟨rfl,rfl,H4c.out⟩
  | ok t r =>
   obtain ⟨rfl,p4,o4,c4,r4,u4,rfl,hp4,hs4⟩ := h4
   have R11 := Lib.hid r4
   have T11 := Lib.hid u4
   clear r4 u4
   go_wp2_with fail
   go_ret
   exact EPost.mk rfl R11.out T11.out (by omega) hs4
 have b3 : isT [119,104,105,108,101] (hd (x.at p)) = false := by simpa using b3
 by_cases b4 : isT [114,101,116,117,114,110] (hd (x.at p)) = true
 ·rw [rdS_4 b0 b1 b2 b3 b4,tail_at]
  obtain ⟨X,hX⟩ : ∃ X,endR 17 [] (rdE f 1 (x.at (p + 1))) = X := ⟨_,rfl⟩
  rw [hX]
  have hp2 := isT_lt b4
  have R0 := Lib.hid h
  have T0 := Lib.hid (RTo.refl x.g o w)
  clear h
  go_enter Tryz.func180,Tryz.ntmps180
  go_wp2_with fail
  refine (accept_no [108,101,116] _ R0.out b0).mono ?_
  rintro e v0 ⟨rfl,r1,u1⟩
  have R1 := Lib.hid r1
  have T1 := Lib.hid (T0.out.trans u1)
  clear r1 u1
  go_wp2_with fail
  refine (seesA_any _ R1.out.ts).mono ?_
  rw [b1]
  rintro e v1 ⟨rfl,rfl⟩
  have R2 := R1
  have T2 := T1
  go_wp2_with fail
  refine (accept_no [105,102] _ R2.out b2).mono ?_
  rintro e v2 ⟨rfl,r3,u3⟩
  have R3 := Lib.hid r3
  have T3 := Lib.hid (T2.out.trans u3)
  clear r3 u3
  go_wp2_with fail
  refine (accept_no [119,104,105,108,101] _ R3.out b3).mono ?_
  rintro e v3 ⟨rfl,r4,u4⟩
  have R4 := Lib.hid r4
  have T4 := Lib.hid (T3.out.trans u4)
  clear r4 u4
  go_wp2_with fail
  refine (accept_yes [114,101,116,117,114,110] _ R4.out b4).mono ?_
  rintro e v4 ⟨rfl,r,u⟩
  have T9 := Lib.hid (T4.out.trans u)
  have HG := Lib.hid (ending_any 17 [] v4 r p (by omega) f (by omega))
  rw [hX] at HG
  go_wp2_with fail
  refine HG.out.mono ?_
  intro e w3 h3
  have h4 := EPost.from T9.out h3
  clear h3 HG
  cases X with
  | bad r =>
   obtain ⟨rfl,H4⟩ := h4
   have H4c := Lib.hid H4
   clear H4
   go_wp2_with fail
   exact ⟨rfl,rfl,H4c.out⟩
  | ok t r =>
   obtain ⟨rfl,p4,o4,c4,r4,u4,rfl,hp4,hs4⟩ := h4
   have R11 := Lib.hid r4
   have T11 := Lib.hid u4
   clear r4 u4
   go_wp2_with fail
   go_ret
   exact EPost.mk rfl R11.out T11.out (by omega) hs4
 have b4 : isT [114,101,116,117,114,110] (hd (x.at p)) = false := by simpa using b4
 rw [rdS_5 b0 b1 b2 b3 b4]
 obtain ⟨X,hX⟩ : ∃ X,endR 18 [] (rdE f 1 (x.at p)) = X := ⟨_,rfl⟩
 rw [hX]
 have R0 := Lib.hid h
 have T0 := Lib.hid (RTo.refl x.g o w)
 clear h
 go_enter Tryz.func180,Tryz.ntmps180
 go_wp2_with fail
 refine (accept_no [108,101,116] _ R0.out b0).mono ?_
 rintro e v0 ⟨rfl,r1,u1⟩
 have R1 := Lib.hid r1
 have T1 := Lib.hid (T0.out.trans u1)
 clear r1 u1
 go_wp2_with fail
 refine (seesA_any _ R1.out.ts).mono ?_
 rw [b1]
 rintro e v1 ⟨rfl,rfl⟩
 have R2 := R1
 have T2 := T1
 go_wp2_with fail
 refine (accept_no [105,102] _ R2.out b2).mono ?_
 rintro e v2 ⟨rfl,r3,u3⟩
 have R3 := Lib.hid r3
 have T3 := Lib.hid (T2.out.trans u3)
 clear r3 u3
 go_wp2_with fail
 refine (accept_no [119,104,105,108,101] _ R3.out b3).mono ?_
 rintro e v3 ⟨rfl,r4,u4⟩
 have R4 := Lib.hid r4
 have T4 := Lib.hid (T3.out.trans u4)
 clear r4 u4
 go_wp2_with fail
 refine (accept_no [114,101,116,117,114,110] _ R4.out b4).mono ?_
 rintro e v4 ⟨rfl,r5,u5⟩
 have R5 := Lib.hid r5
 have T5 := Lib.hid (T4.out.trans u5)
 clear r5 u5
 go_wp2_with fail
 have T9 := T5
 have HG := Lib.hid (ending_any 18 [] _ R5.out p (Nat.le_refl _) f (by omega))
 rw [hX] at HG
 go_wp2_with fail
 refine HG.out.mono ?_
 intro e w3 h3
 have h4 := EPost.from T9.out h3
 clear h3 HG
 cases X with
 | bad r =>
  obtain ⟨rfl,H4⟩ := h4
  have H4c := Lib.hid H4
  clear H4
  go_wp2_with fail
  exact ⟨rfl,rfl,H4c.out⟩
 | ok t r =>
  obtain ⟨rfl,p4,o4,c4,r4,u4,rfl,hp4,hs4⟩ := h4
  have R11 := Lib.hid r4
  have T11 := Lib.hid u4
  clear r4 u4
  go_wp2_with fail
  go_ret
  exact EPost.mk rfl R11.out T11.out (by omega) hs4
theorem sb_any (x : Cx) : ∀ d p,x.T.length + 1 - p ≤ d → Rf x 180 rdS 12 p ∧ Rf x 125 rdB 1 p
 | 0,p,h => ⟨fun f _ S o n c L w hr => by have := hr.ts.pos; omega,fun f _ S o n c L w hr => by have := hr.ts.pos; omega⟩
 | d + 1,p,h => ⟨statement_any fun p' h' => (sb_any x d p' (by omega)).2,block_any fun p' h' => (sb_any x d p' (by omega)).1⟩
theorem block_all (x : Cx) (p : Nat) : Rf x 125 rdB 1 p := (sb_any x _ p (Nat.le_refl _)).2

structure FBox (w : World) (b : Nat) (s ps j : Value) : Prop where
 s : w.cell? ⟨b,0,none⟩ = some s
 ps : w.cell? ⟨b,1,none⟩ = some ps
 j : w.cell? ⟨b,2,none⟩ = some j
 fz : ∀ j,w.frozen? ⟨b,j,none⟩ = false
theorem FBox.same {w w' : World} {b : Nat} {s ps j : Value} (h : FBox w b s ps j) (e : w'.heap[b]? = w.heap[b]?) : FBox w' b s ps j :=
 ⟨(World.cell?_of_block (a := ⟨b,0,none⟩) e).trans h.s,(World.cell?_of_block (a := ⟨b,1,none⟩) e).trans h.ps,(World.cell?_of_block (a := ⟨b,2,none⟩) e).trans h.j,fun j => (World.frozen?_of_block (a := ⟨b,j,none⟩) e).trans (h.fz j)⟩
theorem FBox.lt {w : World} {b : Nat} {s ps j : Value} (h : FBox w b s ps j) : b < w.heap.size := cell_lt' h.s
theorem FBox.setP {w : World} {b : Nat} {s ps j : Value} (h : FBox w b s ps j) (v : Value) : FBox (w.setCell ⟨b,1,none⟩ v) b s v j :=
 ⟨(World.cell?_setCell_other w ⟨b,1,none⟩ ⟨b,0,none⟩ v (by simp)).trans h.s,World.cell?_setCell_same w _ _ h.ps,(World.cell?_setCell_other w ⟨b,1,none⟩ ⟨b,2,none⟩ v (by simp)).trans h.j,fun j => by rw [World.frozen?_setCell]; exact h.fz j⟩
theorem FBox.setJ {w : World} {b : Nat} {s ps j : Value} (h : FBox w b s ps j) (v : Value) : FBox (w.setCell ⟨b,2,none⟩ v) b s ps v :=
 ⟨(World.cell?_setCell_other w ⟨b,2,none⟩ ⟨b,0,none⟩ v (by simp)).trans h.s,(World.cell?_setCell_other w ⟨b,2,none⟩ ⟨b,1,none⟩ v (by simp)).trans h.ps,World.cell?_setCell_same w _ _ h.j,fun j => by rw [World.frozen?_setCell]; exact h.fz j⟩
theorem FBox.new (w : World) (s ps j : Value) (t : TypeId) : FBox (w.alloc (.cells #[s,ps,j] t)) w.heap.size s ps j :=
 ⟨World.cell?_alloc_new ..,World.cell?_alloc_new ..,World.cell?_alloc_new ..,fun _ => World.frozen?_alloc_new _ _ _ _⟩
structure Fx where
 S : Nat → Prop
 n : Nat
 o : Option Addr
 L : List Nd
 w : World
 fb : Nat
 rb : Nat
 rv : Nat
 kb : Nat
 s : Txt
def Fx.T (y : Fx) (qo : Option Addr) (b : Nat) : Prop := y.S b ∨ (b = y.fb ∨ b = y.rb ∨ b = y.rv) ∨ Blk qo b
structure Fx.Ok (x : Cx) (y : Fx) : Prop where
 ne : y.fb ≠ y.rb ∧ y.fb ≠ y.rv
 kb : y.w.heap.size ≤ y.kb
 ge : y.w.heap.size ≤ y.fb ∧ y.w.heap.size ≤ y.rb ∧ y.w.heap.size ≤ y.rv
 xb : x.g < x.base ∧ x.tb < x.base ∧ x.base ≤ y.w.heap.size
 sg : y.S x.g
 sl : ∀ b,y.S b → b < y.w.heap.size
structure HS (x : Cx) (y : Fx) (ks : List Txt) (p : Nat) (c : Nat) (qo : Option Addr) (qc : Nat) (w : World) : Prop where
 rs : RS x (y.T qo) p y.o y.n c y.L w
 go : RTo x.g y.o y.w y.o w
 box : FBox w y.fb (.string ⟨y.s.toArray⟩) (.slice qo ks.length qc) (.int .i64 0)
 res : FBox w y.rv (.string ⟨#[]⟩) (.slice none 0 0) (.int .i64 0)
 ptr : w.cell? ⟨y.rb,0,none⟩ = some (.pointer (some ⟨x.g,0,none⟩))
 keys : w.ownsRow y.kb 9 1 (.slice qo ks.length qc) ks.length (encK ks)
 kb : y.kb ≤ w.heap.size
 nb : ∀ b,Blk qo b → b ≠ y.fb ∧ b ≠ y.rb ∧ b ≠ y.rv
theorem HS.off {x : Cx} {y : Fx} {ks : List Txt} {p : Nat} {c : Nat} {qo : Option Addr} {qc : Nat} {w : World} (h : HS x y ks p c qo qc w) (ok : y.Ok x) : ∀ b,y.T qo b → y.w.heap.size ≤ b → ¬ (b = x.g ∨ Blk y.o b) := fun b hb hg k => by
 rcases k with k | k
 ·have := ok.xb; omega
 ·exact (h.rs.sl b hb).2 k
theorem HS.step {x : Cx} {y : Fx} {ks : List Txt} {p p' : Nat} {c : Nat} {qo : Option Addr} {qc : Nat} {w w' : World} (h : HS x y ks p c qo qc w) (ok : y.Ok x) (t : RTo x.g y.o w y.o w') (hR : RS x (y.T qo) p' y.o y.n c y.L w') : HS x y ks p' c qo qc w' := by
 have f := h.off ok
 exact ⟨hR,h.go.trans t,h.box.same (t.mod.block _ h.box.lt (f _ (Or.inr (Or.inl (Or.inl rfl))) ok.ge.1)),h.res.same (t.mod.block _ h.res.lt (f _ (Or.inr (Or.inl (Or.inr (Or.inr rfl)))) ok.ge.2.2)),t.mod.cell h.ptr (f y.rb (Or.inr (Or.inl (Or.inr (Or.inl rfl)))) ok.ge.2.1),own_kept h.keys t.mod fun b hb => f b (Or.inr (Or.inr ((blk_of h.keys).2 hb))) (Nat.le_trans ok.kb (h.keys.lt b hb).1),Nat.le_trans h.kb t.mod.size,h.nb⟩
theorem HS.key {x : Cx} {y : Fx} {ks : List Txt} {p p1 : Nat} {c : Nat} {qo : Option Addr} {qc : Nat} {w w1 w2 w3 : World} {s : Txt} {gg cap : Nat} (h0 : HS x y ks p c qo qc w) (ok : y.Ok x)
  (r : RS x (y.T qo) p1 y.o y.n c y.L w1) (k : RTo x.g y.o w y.o w1) (B : Bel w1 w2)
  (hown : w3.ownsRow y.kb 9 1 (.slice (some ⟨gg,0,none⟩) (ks.length + 1) cap) (ks.length + 1) (encK ks ++ [.string ⟨s.toArray⟩])) (hg : w2.grownBy w3 (Value.slice qo ks.length qc).ownBlock) (hat : (Value.slice qo ks.length qc).ownBlock = some gg ∨ gg = w2.heap.size) :
  HS x y (ks ++ [s]) p1 c (some ⟨gg,0,none⟩) cap (w3.setCell ⟨y.fb,1,none⟩ (.slice (some ⟨gg,0,none⟩) (ks.length + 1) cap)) := by
 have h := h0.step ok (k.bel B) (r.on B)
 have kb : ∀ b,Blk qo b → y.kb ≤ b ∧ b < w2.heap.size := fun b hb => h.keys.lt b ((blk_of h.keys).1 hb)
 have m2 : Mod (fun b => Blk qo b) w2 w3 := Mod.grown hg (fun b hb => (blk_of h.keys).2 hb)
 have m3 : Mod (fun b => b = y.fb) w3 (w3.setCell ⟨y.fb,1,none⟩ (.slice (some ⟨gg,0,none⟩) (ks.length + 1) cap)) := (Mod.refl (fun b => b = y.fb) w3).setCell (p := ⟨y.fb,1,none⟩) (Or.inl rfl) _
 have hblk : ∀ b,Blk (some (⟨gg,0,none⟩ : Addr)) b → b = gg := fun b ⟨_,q⟩ => by simp only [Option.some.injEq,Addr.mk.injEq] at q; exact q.1.symm
 have hgg : y.kb ≤ gg ∧ gg < w3.heap.size := hown.lt gg rfl
 have hgn : gg ≠ y.fb ∧ gg ≠ y.rb ∧ gg ≠ y.rv := by
  rcases hat with q | q
  ·exact h.nb gg ((blk_of h.keys).2 q)
  ·have := h.box.lt; have : y.rb < w2.heap.size := cell_lt' h.ptr; have := h.res.lt; omega
 have hx : x.g < y.w.heap.size ∧ x.tb < y.w.heap.size := by have := ok.xb; omega
 have r3 : RS x (y.T (some ⟨gg,0,none⟩)) p1 y.o y.n c y.L w3 := by
  refine h.rs.rows m2 (fun b hb => Or.inr (Or.inr hb)) (fun q => by have := (kb _ q).1; have := ok.kb; omega) (fun q => by have := (kb _ q).1; have := ok.kb; omega) (fun b hb => ?_) (fun b hb => ?_) (Or.inl ok.sg)
  ·rcases hb with q | q | q
   ·exact Or.inl (Or.inl q)
   ·exact Or.inl (Or.inr (Or.inl q))
   ·rw [hblk b q]
    rcases hat with q | q
    ·exact Or.inl (Or.inr (Or.inr ((blk_of h.keys).2 q)))
    ·exact Or.inr (by omega)
  ·rcases hb with q | q | q
   ·exact Nat.lt_of_lt_of_le (h.rs.sl b (Or.inl q)).1 m2.size
   ·exact Nat.lt_of_lt_of_le (h.rs.sl b (Or.inr (Or.inl q))).1 m2.size
   ·rw [hblk b q]; exact hgg.2
 refine ⟨r3.mod m3 (fun b hb => Or.inr (Or.inl (Or.inl hb))) (fun q => by have := ok.ge; omega) (fun q => by have := ok.ge; omega),?_,?_,?_,?_,?_,?_,?_⟩
 ·exact ⟨(h.go.mod.trans m2 fun b q => Or.inr (by have := (kb b q).1; have := ok.kb; omega)).trans m3 fun b q => Or.inr (by have := ok.ge; omega),h.go.at_⟩
 ·rw [List.length_append,List.length_singleton]
  exact (h.box.same (m2.block _ h.box.lt fun q => (h.nb _ q).1 rfl)).setP _
 ·have h1 := h.res.same (m2.block _ h.res.lt fun q => (h.nb _ q).2.2 rfl)
  exact h1.same (m3.block _ h1.lt fun q => ok.ne.2 q.symm)
 ·exact (World.cell?_setCell_far w3 ⟨y.fb,1,none⟩ ⟨y.rb,0,none⟩ _ ok.ne.1).trans (m2.cell h.ptr fun q => (h.nb _ q).2.1 rfl)
 ·rw [List.length_append,List.length_singleton,show encK (ks ++ [s]) = encK ks ++ [.string ⟨s.toArray⟩] by simp [encK]]
  exact own_kept hown m3 fun b hb q => by
   have : b = gg := Option.some.inj (hb.symm.trans rfl)
   exact hgn.1 (this ▸ q)
 ·exact Nat.le_trans h.kb (Nat.le_trans m2.size m3.size)
 ·exact fun b hb => by rw [hblk b hb]; exact hgn
def HSt (x : Cx) (y : Fx) (ks : List Txt) (p : Nat) (w : World) : Prop := (∃ c qo qc,HS x y ks p c qo qc w) ∧ ks.length ≤ p
def HPn (x : Cx) (y : Fx) (e : Ending) (w : World) (r : List Ck) : Prop := Stops x y.o y.w e w r
theorem hst_keeps (x : Cx) (y : Fx) (ok : y.Ok x) : Keeps x (HSt x y) (HPn x y) := by
 rintro a p w ⟨⟨c,qo,qc,h⟩,hl⟩
 exact ⟨_,y.o,_,c,_,h.rs,fun p' w' r t hp => ⟨⟨c,qo,qc,h.step ok t r⟩,Nat.le_trans hl hp⟩,fun e w' r hs => Stops.from h.go hs⟩
def gN (_ : Nat) (ks : List Txt) (r : List Ck) : RR (List Txt) := if (hd r).1 = 1 then .ok (ks ++ [(hd r).2.1]) r.tail else .bad r
theorem its_rdM : ∀ (f : Nat) (ks : List Txt) (r : List Ck),its gN [41] f ks r = rdM f ks r
 | 0,ks,r => by rw [its,rdM]
 | f + 1,ks,r => by
  rw [its,rdM,gN]
  by_cases h1 : (hd r).1 = 1
  ·rw [if_pos h1,if_pos h1]
   show (if isT [44] (hd r.tail) = true then its gN [41] f (ks ++ [(hd r).2.1]) r.tail.tail else _) = _
   rw [its_rdM f]
  ·rw [if_neg h1,if_neg h1]
theorem ent_parm : ∀ args w,(callFunc 124 args).run Tryz.prog w = .ok (.enter 124 args) w := enters_of Tryz.func124 (by kernel_rfl) rfl
theorem parm_any {x : Cx} {y : Fx} (ok : y.Ok x) (f : Nat) (ks : List Txt) (p : Nat) (w : World) (h : HSt x y ks p w) :
  Calls Tryz.prog 124 #[.pointer (some ⟨y.fb,0,none⟩),.pointer (some ⟨y.rb,0,none⟩)] w (IPost x (HSt x y) (HPn x y) p (gN f ks (x.at p))) := by
 obtain ⟨⟨c,qo,qc,h⟩,hl⟩ := h
 have hp1k := Nat.le_trans h.rs.ts.pos h.rs.ts.len
 have c1 := h.box.ps
 have f1 := h.box.fz 1
 have cp := h.ptr
 have hbn : y.fb < w.heap.size := h.box.lt
 have hrb : y.rb < w.heap.size := cell_lt' cp
 have B : Bel w w.drew := Below.drew (Bel.refl w)
 unfold gN
 by_cases h1 : (hd (x.at p)).1 = 1
 ·rw [if_pos h1,tail_at]
  obtain ⟨i1,hi1,hy0,hy1,hy2⟩ := info_parts info_str
  have Hi1 := Lib.hid hi1
  have Hy0 := Lib.hid hy0
  have Hy1 := Lib.hid hy1
  have Hy2 := Lib.hid hy2
  obtain ⟨s,hs⟩ : ∃ s,(hd (x.at p)).2.1 = s := ⟨_,rfl⟩
  have hN := name_yes w.drew (h.rs.on B) h1
  have hlt := kind_lt h1 (by decide)
  rw [hs] at hN ⊢
  have HN := Lib.hid (hN.mono fun e w1 (k : e = .returned (.string ⟨s.toArray⟩) ∧ RS x (y.T qo) (p + 1) y.o y.n c y.L w1 ∧ RTo x.g y.o w.drew y.o w1) => show e = .returned (.string ⟨s.toArray⟩) ∧ w1.cell? ⟨y.fb,1,none⟩ = some (.slice qo ks.length qc) ∧ w1.frozen? ⟨y.fb,1,none⟩ = false ∧ w1.cell? ⟨y.rb,0,none⟩ = some (.pointer (some ⟨x.g,0,none⟩)) ∧ y.fb < w1.heap.size ∧
    Hid (∀ W',Bel w1 W' → W'.ownsRow y.kb 9 1 (.slice qo ks.length qc) ks.length (encK ks) ∧ y.kb ≤ W'.heap.size) ∧
    Hid (∀ W' w3,Bel w1 W' → W'.grownBy w3 (Value.slice qo ks.length qc).ownBlock → w3.cell? ⟨y.fb,1,none⟩ = some (.slice qo ks.length qc) ∧ w3.frozen? ⟨y.fb,1,none⟩ = false) ∧
    Hid (∀ (W' w3 : World) (gg cap : Nat),Bel w1 W' → w3.ownsRow y.kb 9 1 (.slice (some ⟨gg,0,none⟩) (ks.length + 1) cap) (ks.length + 1) (encK ks ++ [.string ⟨s.toArray⟩]) → W'.grownBy w3 (Value.slice qo ks.length qc).ownBlock → ((Value.slice qo ks.length qc).ownBlock = some gg ∨ gg = W'.heap.size) → HSt x y (ks ++ [s]) (p + 1) (w3.setCell ⟨y.fb,1,none⟩ (.slice (some ⟨gg,0,none⟩) (ks.length + 1) cap))) from by
   obtain ⟨rfl,r1,t1⟩ := k
   have t0 := (RTo.of_bel (g := x.g) (o := y.o) B).trans t1
   have g1 := h.step ok t0 r1
   refine ⟨rfl,g1.box.ps,g1.box.fz 1,g1.ptr,g1.box.lt,Lib.hid fun W' g => ⟨own_belz g1.keys g,Nat.le_trans g1.kb g.size⟩,Lib.hid fun W' w3 g hgr => ?_,Lib.hid fun W' w3 gg cap g hown hgr hat => ⟨⟨c,_,_,h.key ok r1 t0 g hown hgr hat⟩,by rw [List.length_append,List.length_singleton]; omega⟩⟩
   have hne : some y.fb ≠ (Value.slice qo ks.length qc).ownBlock := fun e => (g1.nb y.fb ((blk_of g1.keys).2 e.symm)).1 rfl
   have hlt : y.fb < W'.heap.size := Nat.lt_of_lt_of_le g1.box.lt g.size
   exact ⟨(hgr.cell_far ⟨y.fb,1,none⟩ hlt hne).trans (g.cell' g1.box.ps),(hgr.frozen_far ⟨y.fb,1,none⟩ hlt hne).trans ((g1.box.same (g.block _ g1.box.lt)).fz 1)⟩)
  have nml : Hid (ks.length + 1 ≤ maxLen) := Lib.hid (by unfold maxLen; omega)
  have nml2 : Hid ((ks.length + 1) * 16 ≤ 140737488355328) := Lib.hid (by omega)
  have nnw : Hid (∀ W' W'' : World,W''.heap[W'.heap.size]? = some (.cells #[.string ⟨s.toArray⟩] 9) → ∀ j u,[Value.string ⟨s.toArray⟩][j]? = some u → W''.cell? ((⟨W'.heap.size,0,none⟩ : Addr).add j) = some u) := Lib.hid fun W' W'' hW' => World.news_of_block (cs := #[.string ⟨s.toArray⟩]) (t := 9) (fr := (0,0)) hW'
  clear h ok hN hs h1 B
  go_enter Tryz.func124,Tryz.ntmps124
  go_region_law (first | (refine step_append_lies _ (by rfl) _ _ _ (by rfl) y.kb 9 i1 _ 1 16 Tryz.underlying44 Hi1.out Hy0.out Hy1.out Hy2.out rfl (by omega) _ _ _ (by rfl) (hK1.out _ (by repeat (first | exact Bel.refl _ | refine Below.drew ?_ | refine Bel.alloc ?_ _))).1 ⟨w2.heap.size,0,none⟩ 1 1 [.string ⟨s.toArray⟩] (by rfl) (by rfl) (nnw.out w2 _ (heap_new w2 _)) (by simp [Value.oneCell']) (by omega) nml.out nml2.out (hK1.out _ (by repeat (first | exact Bel.refl _ | refine Below.drew ?_ | refine Bel.alloc ?_ _))).2 _ rfl ?_; intro gg cap w3 hown3 hgrow hat hlt; obtain ⟨d5,g5⟩ := hK2.out _ w3 (by repeat (first | exact Bel.refl _ | refine Below.drew ?_ | refine Bel.alloc ?_ _)) hgrow) | (go_simp; go_at_call 121; (with_reducible refine HN.out.mono ?_); rintro e w2 ⟨rfl,d4,g4,dp,hb2,hK1,hK2,hK3⟩))
  all_goals
   have k1 := hK3.out _ w3 gg cap (by repeat (first | exact Bel.refl _ | refine Below.drew ?_ | refine Bel.alloc ?_ _)) hown3 hgrow hat
   first | (refine bodyPost_end (results_none rfl _ _ _) rfl ?_) | (refine bodyPost_ret (results_none rfl _ _ _) rfl ?_)
   exact IPost.mk k1 (by omega)
 ·rw [if_neg h1]
  have HN := Lib.hid ((name_no w.drew (h.rs.on B) h1).mono fun e w' (k : Stops x y.o w.drew e w' (x.at p)) => show e = .panicked [{ v := errV,recovered := false }] ∧ Hid (HPn x y e w' (x.at p)) from ⟨k.1,Lib.hid (Stops.from (h.go.bel B) k)⟩)
  clear h ok h1 B
  go_enter Tryz.func124,Tryz.ntmps124
  refine wp_region_held_drew (S := fun W => W.cell? ⟨y.fb,1,none⟩ = some (.slice qo ks.length qc) ∧ W.cell? ⟨y.rb,0,none⟩ = some (.pointer (some ⟨x.g,0,none⟩))) (by kernel_rfl) ⟨c1,cp⟩ (fun hH => ?_)
  refine wpAnyH_take (i := 0) (v := ?_) rfl (by kernel_rfl) (by kernel_rfl) (by kernel_rfl) (fun _ _ _ h => h) (Or.inl ⟨by rfl,?_⟩) (by assumption) ?_
  rotate_left 1
  ·intro w hSw
   go_simp
   with_reducible rfl
  refine wpAnyH_take (i := 1) (v := ?_) rfl (by kernel_rfl) (by kernel_rfl) (by kernel_rfl) (fun _ _ _ h => h) (Or.inl ⟨by rfl,?_⟩) (by assumption) ?_
  rotate_left 1
  ·intro w hSw
   have q := hSw.1
   go_simp
   with_reducible rfl
  refine wpAnyH_take (i := 2) (v := ?_) rfl (by kernel_rfl) (by kernel_rfl) (by kernel_rfl) (fun _ _ _ h => h) (Or.inl ⟨by rfl,?_⟩) (by assumption) ?_
  rotate_left 1
  ·intro w hSw
   have q := hSw.2
   go_simp
   with_reducible rfl
  refine wpAnyH_ready (rs := [3]) (by kernel_rfl) (by simp) ?_
  refine AllReadyH.cons rfl (fun K hK => ?_) AllReadyH.nil
  go_simp
  refine HN.out.mono ?_
  rintro e w2 ⟨rfl,hS⟩
  exact ⟨rfl,hS.out⟩
end Syn
end Go.Proofs.YtcapkeaedpabjaaGreatDoor
