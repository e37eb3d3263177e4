/-
  Layer 8, texts merged: SzJ, SzK, SzL, SynC, SynD. For every argument within the bounds that each theorem names.
-/
import Derived.Test.YtcapkeaedpabjaaGreatDoorYF5
import Derived.Test.YtcapkeaedpabjaaGreatDoorYF1
import Derived.Test.YtcapkeaedpabjaaGreatDoorYC1
set_option maxRecDepth 100000
set_option maxHeartbeats 16000000

/-
 Layer 8: function, as the program has it.
-/
namespace Go.Proofs.YtcapkeaedpabjaaGreatDoor
open Go.RowKit Go.ChangeShapes Go.WideShapes
namespace Syn

def FPost (x : Cx) (S : Nat → Prop) (p n : Nat) (o : Option Addr) (L : List Nd) (X : RR Fu) (w : World) (e : Ending) (w' : World) : Prop :=
 match X with
 | .ok u r => ∃ po k pc,e = .returned (.agg #[.string ⟨u.name.toArray⟩,.slice po k pc,.int .i64 ((n : Int) + (size u.body : Int) - 1)]) ∧ k ≤ pc ∧ KArg w' po k u.params ∧ (∀ b,Blk po b → w.heap.size ≤ b) ∧ (∀ a,po = some a → ∃ b off,a = ⟨b,off,none⟩) ∧ ∃ p' o' c',RS x (fun b => S b ∨ Blk po b) p' o' (n + size u.body) c' (L ++ flat n u.body) w' ∧ RTo x.g o w o' w' ∧ r = x.at p' ∧ p < p' ∧ size u.body + p ≤ p'
 | .bad r => Stops x o w e w' r
theorem rdF_n (f : Nat) (r : List Ck) (h : ¬ (hd r).1 = 1) : rdF f r = .bad r := by rw [rdF,if_neg h]
theorem rdF_p (f : Nat) (r : List Ck) (h : (hd r).1 = 1) (h2 : isT [40] (hd r.tail) = false) : rdF f r = .bad r.tail := by rw [rdF,if_pos h,if_neg (by rw [h2]; decide)]
theorem rdF_i {f : Nat} {r r' : List Ck} (h : (hd r).1 = 1) (h2 : isT [40] (hd r.tail) = true) (h3 : itl gN [41] f [] r.tail.tail = .bad r') : rdF f r = .bad r' := by
 rw [itl,its_rdM] at h3
 rw [rdF,if_pos h,if_pos h2,h3]
theorem rdF_b {f : Nat} {ps : List Txt} {r r1 r' : List Ck} (h : (hd r).1 = 1) (h2 : isT [40] (hd r.tail) = true) (h3 : itl gN [41] f [] r.tail.tail = .ok ps r1) (h4 : rdB f r1 = .bad r') : rdF f r = .bad r' := by
 rw [itl,its_rdM] at h3
 rw [rdF,if_pos h,if_pos h2,h3]
 simp only [h4]
theorem rdF_o {f : Nat} {ps : List Txt} {b : T} {r r1 r' : List Ck} (h : (hd r).1 = 1) (h2 : isT [40] (hd r.tail) = true) (h3 : itl gN [41] f [] r.tail.tail = .ok ps r1) (h4 : rdB f r1 = .ok b r') : rdF f r = .ok ⟨(hd r).2.1,ps,b⟩ r' := by
 rw [itl,its_rdM] at h3
 rw [rdF,if_pos h,if_pos h2,h3]
 simp only [h4]
theorem hs_new {x : Cx} {S : Nat → Prop} {p p1 : Nat} {o : Option Addr} {n c : Nat} {L : List Nd} {w W0 w1 : World} (h : RS x S p o n c L w) (s : Txt) (rb rv : Nat) (hr : w.heap.size ≤ rb) (hv : w.heap.size ≤ rv) (B : Bel w W0) (hp : W0.cell? ⟨rb,0,none⟩ = some (.pointer (some ⟨x.g,0,none⟩))) (hres : FBox W0 rv (.string ⟨#[]⟩) (.slice none 0 0) (.int .i64 0)) (r1 : RS x (fun b => S b ∨ (b = rb ∨ b = rv)) p1 o n c L w1) (t1 : RTo x.g o W0 o w1) (W1 : World) (hW1 : w1.alloc (.cells #[.string ⟨s.toArray⟩,.slice none 0 0,.int .i64 0] 61) = W1) :
  (⟨S,n,o,L,w,w1.heap.size,rb,rv,W1.heap.size,s⟩ : Fx).Ok x ∧ HS x ⟨S,n,o,L,w,w1.heap.size,rb,rv,W1.heap.size,s⟩ [] p1 c none 0 W1 := by
 have B1 : Bel w1 W1 := by rw [← hW1]; exact Bel.alloc (Bel.refl w1) _
 have hfb : FBox W1 w1.heap.size (.string ⟨s.toArray⟩) (.slice none 0 0) (.int .i64 0) := by rw [← hW1]; exact FBox.new _ _ _ _ _
 have hrl : rb < W0.heap.size := cell_lt' hp
 have hoff : ∀ b,w.heap.size ≤ b → ¬ (b = x.g ∨ Blk o b) := fun b hb k => by
  rcases k with k | k
  ·have := h.lt; omega
  ·have := (h.own.blk k).2; omega
 have hp1 := B1.cell' (t1.mod.cell hp (hoff rb hr))
 have hres1 := hres.same (t1.mod.block _ hres.lt (hoff rv hv))
 have hres2 := hres1.same (B1.block _ hres1.lt)
 have hsz := t1.mod.size
 have l1 := hfb.lt
 have l2 : rb < W1.heap.size := cell_lt' hp1
 have l3 := hres2.lt
 refine ⟨⟨⟨by show w1.heap.size ≠ rb; omega,by have := hres1.lt; show w1.heap.size ≠ rv; omega⟩,Nat.le_trans B.size (Nat.le_trans hsz B1.size),⟨Nat.le_trans B.size hsz,hr,hv⟩,h.lt,h.sg,fun b hb => (h.sl b hb).1⟩,⟨?_,⟨(Mod.of_bel (F := fun k => k = x.g ∨ Blk o k) B).trans (t1.bel B1).mod fun i hi => Or.inl hi,fun _ e => Or.inl e⟩,hfb,hres2,hp1,World.ownsRow_nil _ _ _ _,Nat.le_refl _,fun b ⟨_,q⟩ => by cases q⟩⟩
 show RS x _ p1 o n c L W1
 refine r1.wide B1 (fun b hb => ?_) (fun b hb => ?_) (Or.inl h.sg)
 ·rcases hb with q | (q | q | q) | ⟨_,q⟩
  ·exact Or.inl (Or.inl q)
  ·exact Or.inr (by rw [q]; exact Nat.le_refl _)
  ·exact Or.inl (Or.inr (Or.inl q))
  ·exact Or.inl (Or.inr (Or.inr q))
  ·cases q
 ·rcases hb with q | (q | q | q) | ⟨_,q⟩
  ·exact Nat.lt_of_lt_of_le (r1.sl b (Or.inl q)).1 B1.size
  ·rw [q]; exact l1
  ·rw [q]; exact l2
  ·rw [q]; exact l3
  ·cases q
theorem function_any {x : Cx} {S : Nat → Prop} {p : Nat} {o : Option Addr} {n c : Nat} {L : List Nd} (w : World) (h : RS x S p o n c L w) (f : Nat) (hf : 20 * (x.T.length - p) + 1 ≤ f) :
  Calls Tryz.prog 68 #[.pointer (some ⟨x.g,0,none⟩)] w (FPost x S p n o L (rdF f (x.at p)) w) := by
 have hmf := hmf_any
 have hnp := h.np
 obtain ⟨W0,hW0⟩ : ∃ W0,(w.alloc (.cells #[.pointer (some ⟨x.g,0,none⟩)] 97)).alloc (.cells #[.string ⟨#[]⟩,.slice none 0 0,.int .i64 0] 61) = W0 := ⟨_,rfl⟩
 have B : Bel w W0 := by rw [← hW0]; exact Bel.alloc (Bel.alloc (Bel.refl w) _) _
 have hres : FBox W0 (w.heap.size + 1) (.string ⟨#[]⟩) (.slice none 0 0) (.int .i64 0) := by
  have e : (w.alloc (.cells #[.pointer (some ⟨x.g,0,none⟩)] 97)).heap.size = w.heap.size + 1 := by show (w.heap.push _).size = _; simp
  rw [← hW0,← e]
  exact FBox.new _ _ _ _ _
 have hpt : W0.cell? ⟨w.heap.size,0,none⟩ = some (.pointer (some ⟨x.g,0,none⟩)) := by
  rw [← hW0]
  refine (Bel.alloc (Bel.refl _) _).cell ?_
  rw [World.cell?_alloc_new]
  rfl
 have hrvl := hres.lt
 have h0 : RS x (fun b => S b ∨ (b = w.heap.size ∨ b = w.heap.size + 1)) p o n c L W0 := h.wide B (fun b hb => by rcases hb with q | q | q; exact Or.inl q; exact Or.inr (by omega); exact Or.inr (by omega)) (fun b hb => by rcases hb with q | q | q; exact Nat.lt_of_lt_of_le (h.sl b q).1 B.size; omega; omega) (Or.inl h.sg)
 have Hw0 := Lib.hid hW0
 by_cases hk : (hd (x.at p)).1 = 1
 ·have HN := Lib.hid (name_yes W0 h0 hk)
  obtain ⟨s,hs⟩ : ∃ s,(hd (x.at p)).2.1 = s := ⟨_,rfl⟩
  rw [hs] at HN
  have hp := kind_lt hk (by decide)
  have H0 := Lib.hid h
  have HB0 := Lib.hid B
  have HR0 := Lib.hid hres
  have HP0 := Lib.hid hpt
  have Hk := Lib.hid hk
  have Hs := Lib.hid hs
  obtain ⟨X,hX⟩ : ∃ X,rdF f (x.at p) = X := ⟨_,rfl⟩
  have HX := Lib.hid hX
  rw [hX]
  have cpt := hpt
  have v0 := hres.s
  clear h h0 hk hres B hW0 hpt hs hX
  go_enter Tryz.func68,Tryz.ntmps68
  go_wp2_with fail
  rw [Hw0.out]
  refine HN.out.mono ?_
  rintro e w1 ⟨rfl,r1,t1⟩
  clear HN
  obtain ⟨W1,hW1⟩ : ∃ W1,w1.alloc (.cells #[.string ⟨s.toArray⟩,.slice none 0 0,.int .i64 0] 61) = W1 := ⟨_,rfl⟩
  obtain ⟨ok,g1⟩ := hs_new H0.out s w.heap.size (w.heap.size + 1) (Nat.le_refl _) (by omega) HB0.out HP0.out HR0.out r1 t1 W1 hW1
  obtain ⟨y,hy⟩ : ∃ y : Fx,(⟨S,n,o,L,w,w1.heap.size,w.heap.size,w.heap.size + 1,W1.heap.size,s⟩ : Fx) = y := ⟨_,rfl⟩
  rw [hy] at ok g1
  have HY := Lib.hid hy
  have OK := Lib.hid ok
  have G1 := Lib.hid g1
  have HW1 := Lib.hid hW1
  have d1 := t1.mod.cell cpt (fun k => by
   rcases k with k | k
   ·have := H0.out.lt; simp only at k; omega
   ·exact Nat.lt_irrefl _ (H0.out.own.blk k).2)
  have d1b : w.heap.size < w1.heap.size := cell_lt' d1
  clear r1 t1 ok g1 hy hW1 cpt v0
  cases h40 : isT [40] (hd (x.at (p + 1))) with
  | false =>
   have HE := Lib.hid ((expect_no [40] W1 G1.out.rs h40).mono fun e w' (k : Stops x y.o W1 e w' (x.at (p + 1))) => Stops.from G1.out.go k)
   have hz : Hid (X = .bad (x.at (p + 1))) := Lib.hid (by rw [← HX.out,rdF_p _ _ Hk.out (by rw [tail_at]; exact h40),tail_at])
   have hyo : Hid (y.o = o ∧ y.w = w) := Lib.hid (by rw [← HY.out]; exact ⟨rfl,rfl⟩)
   go_wp2_with fail
   rw [HW1.out]
   refine HE.out.mono ?_
   rintro e w2 h2
   rw [hyo.out.1,hyo.out.2] at h2
   obtain ⟨rfl,H2⟩ := h2
   have H2c := Lib.hid H2
   clear H2
   go_wp2_with fail
   rw [hz.out]
   exact ⟨rfl,rfl,H2c.out⟩
  | true =>
   have HE := Lib.hid (expect_yes [40] W1 G1.out.rs h40)
   have H40 := Lib.hid h40
   have hp2 := isT_lt h40
   clear h40
   go_wp2_with fail
   rw [HW1.out]
   refine HE.out.mono ?_
   rintro e w2 ⟨rfl,r2,t2⟩
   have g2 := G1.out.step OK.out t2 r2
   have c2 := g2.ptr
   have yrb : Hid (y.rb = w.heap.size ∧ y.fb = w1.heap.size ∧ y.rv = w.heap.size + 1) := Lib.hid (by rw [← HY.out]; exact ⟨rfl,rfl,rfl⟩)
   rw [yrb.out.1] at c2
   have HI := items_any (k := 0) (by decide) #[.pointer (some ⟨w1.heap.size,0,none⟩),.pointer (some ⟨w.heap.size,0,none⟩)] ent_parm (hst_keeps x y OK.out) (fun e w r hs => hs.1) (p + 2) (fun f a p' w' hp hst hf => by
    have := parm_any OK.out f a p' w' hst
    rw [yrb.out.1,yrb.out.2.1] at this
    exact this) [41] f (by omega) [] w2 ⟨⟨_,_,_,g2⟩,Nat.zero_le _⟩
   have HI' := Lib.hid HI
   clear g2 r2 t2 HI HE G1 HW1 d1
   go_wp2_with fail
   refine HI'.out.mono ?_
   intro e w3 h3
   clear HI'
   have hyo : Hid (y.o = o ∧ y.w = w ∧ y.n = n ∧ y.L = L ∧ y.s = s ∧ y.S = S) := Lib.hid (by rw [← HY.out]; exact ⟨rfl,rfl,rfl,rfl,rfl,rfl⟩)
   cases hg : itl gN [41] f [] (x.at (p + 2)) with
   | bad r =>
    rw [hg] at h3
    have h3' : Stops x y.o y.w e w3 r := h3
    rw [hyo.out.1,hyo.out.2.1] at h3'
    obtain ⟨rfl,H2⟩ := h3'
    have H2c := Lib.hid H2
    have hz : Hid (X = .bad r) := Lib.hid (by rw [← HX.out,rdF_i Hk.out (by rw [tail_at]; exact H40.out) (by rw [tail_at,tail_at]; exact hg)])
    clear h3 H2
    go_wp2_with fail
    rw [hz.out]
    exact ⟨rfl,rfl,H2c.out⟩
   | ok ps r =>
    rw [hg] at h3
    obtain ⟨rfl,p3,⟨⟨c3,qo,qc,g3⟩,_⟩,rfl,hp3⟩ := h3
    have d3 := g3.ptr
    rw [yrb.out.1] at d3
    have q3 := g3.rs.ts.pos
    have HBk := Lib.hid (block_all x p3 f (by omega) _ _ _ _ _ w3 g3.rs)
    have G3 := Lib.hid g3
    have Hg := Lib.hid hg
    clear g3 hg
    go_wp2_with fail
    refine HBk.out.mono ?_
    intro e w4 h4
    clear HBk
    cases hg4 : rdB f (x.at p3) with
    | bad r =>
     rw [hg4] at h4
     have h4' := Stops.from G3.out.go h4
     rw [hyo.out.1,hyo.out.2.1] at h4'
     obtain ⟨rfl,H2⟩ := h4'
     have H2c := Lib.hid H2
     have hz : Hid (X = .bad r) := Lib.hid (by rw [← HX.out,rdF_b Hk.out (by rw [tail_at]; exact H40.out) (by rw [tail_at,tail_at]; exact Hg.out) hg4])
     clear h4 H2
     go_wp2_with fail
     rw [hz.out]
     exact ⟨rfl,rfl,H2c.out⟩
    | ok bT r =>
     rw [hg4] at h4
     obtain ⟨rfl,p4,o4,c4,r4,t4,rfl,hp4,hs4⟩ := h4
     have hz : Hid (X = .ok ⟨s,ps,bT⟩ (x.at p4)) := Lib.hid (by rw [← HX.out,rdF_o Hk.out (by rw [tail_at]; exact H40.out) (by rw [tail_at,tail_at]; exact Hg.out) hg4,Hs.out])
     have off := G3.out.off OK.out
     have fb4 := G3.out.box.same (t4.mod.block _ G3.out.box.lt (off _ (Or.inr (Or.inl (Or.inl rfl))) OK.out.ge.1))
     have rv4 := G3.out.res.same (t4.mod.block _ G3.out.res.lt (off _ (Or.inr (Or.inl (Or.inr (Or.inr rfl)))) OK.out.ge.2.2))
     have ky4 := own_kept G3.out.keys t4.mod fun b hb => off b (Or.inr (Or.inr ((blk_of G3.out.keys).2 hb))) (Nat.le_trans OK.out.kb (G3.out.keys.lt b hb).1)
     rw [yrb.out.2.1,hyo.out.2.2.2.2.1] at fb4
     rw [yrb.out.2.2] at rv4
     have e0 := fb4.s
     have e1 := fb4.ps
     have e2 := fb4.j
     have e3 := fb4.fz
     have e4 := rv4.s
     have e5 := rv4.ps
     have e6 := rv4.j
     have e7 := rv4.fz
     have R4 := Lib.hid r4
     have T4 := Lib.hid t4
     have K4 := Lib.hid ky4
     have hne : ¬ w1.heap.size = w.heap.size + 1 := by have := OK.out.ne.2; rw [yrb.out.2.1,yrb.out.2.2] at this; exact this
     have Hyn := hyo.out.2.2.1
     rw [Hyn]
     clear r4 t4 ky4 fb4 rv4 off hg4
     go_wp2_with fail
     have z0 := World.cell?_setCell_same (w4.setCell ⟨w1.heap.size,2,none⟩ (.int .i64 ((n : Int) + (size bT : Int) - 1))) ⟨w.heap.size + 1,0,none⟩ (.string ⟨s.toArray⟩) ((World.cell?_setCell_far w4 ⟨w1.heap.size,2,none⟩ ⟨w.heap.size + 1,0,none⟩ _ hne).trans e4)
     have z1 := World.cell?_setCell_same ((w4.setCell ⟨w1.heap.size,2,none⟩ (.int .i64 ((n : Int) + (size bT : Int) - 1))).setCell ⟨w.heap.size + 1,0,none⟩ (.string ⟨s.toArray⟩)) ⟨w.heap.size + 1,1,none⟩ (.slice qo ps.length qc) (((World.cell?_setCell_other _ ⟨w.heap.size + 1,0,none⟩ ⟨w.heap.size + 1,1,none⟩ _ (by simp)).trans (World.cell?_setCell_far w4 ⟨w1.heap.size,2,none⟩ ⟨w.heap.size + 1,1,none⟩ _ hne)).trans e5)
     have z2 := World.cell?_setCell_same (((w4.setCell ⟨w1.heap.size,2,none⟩ (.int .i64 ((n : Int) + (size bT : Int) - 1))).setCell ⟨w.heap.size + 1,0,none⟩ (.string ⟨s.toArray⟩)).setCell ⟨w.heap.size + 1,1,none⟩ (.slice qo ps.length qc)) ⟨w.heap.size + 1,2,none⟩ (.int .i64 ((n : Int) + (size bT : Int) - 1)) (((World.cell?_setCell_other _ ⟨w.heap.size + 1,1,none⟩ ⟨w.heap.size + 1,2,none⟩ _ (by simp)).trans ((World.cell?_setCell_other _ ⟨w.heap.size + 1,0,none⟩ ⟨w.heap.size + 1,2,none⟩ _ (by simp)).trans (World.cell?_setCell_far w4 ⟨w1.heap.size,2,none⟩ ⟨w.heap.size + 1,2,none⟩ _ hne))).trans e6)
     have z0' := ((World.cell?_setCell_other (((w4.setCell ⟨w1.heap.size,2,none⟩ (.int .i64 ((n : Int) + (size bT : Int) - 1))).setCell ⟨w.heap.size + 1,0,none⟩ (.string ⟨s.toArray⟩)).setCell ⟨w.heap.size + 1,1,none⟩ (.slice qo ps.length qc)) ⟨w.heap.size + 1,2,none⟩ ⟨w.heap.size + 1,0,none⟩ (.int .i64 ((n : Int) + (size bT : Int) - 1)) (by simp)).trans (World.cell?_setCell_other _ ⟨w.heap.size + 1,1,none⟩ ⟨w.heap.size + 1,0,none⟩ _ (by simp))).trans z0
     have z1' := (World.cell?_setCell_other (((w4.setCell ⟨w1.heap.size,2,none⟩ (.int .i64 ((n : Int) + (size bT : Int) - 1))).setCell ⟨w.heap.size + 1,0,none⟩ (.string ⟨s.toArray⟩)).setCell ⟨w.heap.size + 1,1,none⟩ (.slice qo ps.length qc)) ⟨w.heap.size + 1,2,none⟩ ⟨w.heap.size + 1,1,none⟩ (.int .i64 ((n : Int) + (size bT : Int) - 1)) (by simp)).trans z1
     have M : Mod (fun b => b = w1.heap.size ∨ b = w.heap.size + 1) w4 ((((w4.setCell ⟨w1.heap.size,2,none⟩ (.int .i64 ((n : Int) + (size bT : Int) - 1))).setCell ⟨w.heap.size + 1,0,none⟩ (.string ⟨s.toArray⟩)).setCell ⟨w.heap.size + 1,1,none⟩ (.slice qo ps.length qc)).setCell ⟨w.heap.size + 1,2,none⟩ (.int .i64 ((n : Int) + (size bT : Int) - 1))) :=
      ((((Mod.refl (fun b => b = w1.heap.size ∨ b = w.heap.size + 1) w4).setCell (p := ⟨w1.heap.size,2,none⟩) (Or.inl (Or.inl rfl)) _).setCell (p := ⟨w.heap.size + 1,0,none⟩) (Or.inl (Or.inr rfl)) _).setCell (p := ⟨w.heap.size + 1,1,none⟩) (Or.inl (Or.inr rfl)) _).setCell (p := ⟨w.heap.size + 1,2,none⟩) (Or.inl (Or.inr rfl)) _
     generalize ((((w4.setCell ⟨w1.heap.size,2,none⟩ (.int .i64 ((n : Int) + (size bT : Int) - 1))).setCell ⟨w.heap.size + 1,0,none⟩ (.string ⟨s.toArray⟩)).setCell ⟨w.heap.size + 1,1,none⟩ (.slice qo ps.length qc)).setCell ⟨w.heap.size + 1,2,none⟩ (.int .i64 ((n : Int) + (size bT : Int) - 1))) = w5 at *
     refine bodyPost_ret (v := .agg #[.string ⟨s.toArray⟩,.slice qo ps.length qc,.int .i64 ((n : Int) + (size bT : Int) - 1)]) (by simp [results,Tryz.results68,go_sem,z0',z1',z2]) rfl ?_
     rw [hz.out]
     obtain ⟨yo,yw,yn,yL,ys,yS⟩ := hyo.out
     obtain ⟨yrb',yfb,yrv⟩ := yrb.out
     have hSg := H0.out.sg
     have hge := OK.out.ge
     have hxb := H0.out.lt
     have hfbg : w.heap.size ≤ w1.heap.size := by rw [yfb,yw] at hge; exact hge.1
     have r5 := R4.out.mod M (fun b hb => Or.inr (Or.inl (by rcases hb with q | q; exact Or.inl (by rw [yfb]; exact q); exact Or.inr (Or.inr (by rw [yrv]; exact q))))) (fun q => by have := (H0.out.sl _ hSg).1; omega) (fun q => by omega)
     rw [yn,yL] at r5
     have kb5 : ∀ b,Blk qo b → w.heap.size ≤ b := fun b hb => by
      have h1 := (K4.out.lt b ((blk_of K4.out).1 hb)).1
      have h2 := OK.out.kb
      rw [yw] at h2
      omega
     have ky5 : w5.ownsRow y.kb 9 1 (.slice qo ps.length qc) ps.length (encK ps) := own_kept K4.out M fun b hb q => by
      have := G3.out.nb b ((blk_of K4.out).2 hb)
      rw [yfb,yrv] at this
      rcases q with q | q
      ·exact this.1 q
      ·exact this.2.2 q
     have hqa : ∀ a,qo = some a → ∃ b off,a = ⟨b,off,none⟩ := fun a ha => by
      rcases K4.out.2 with ⟨hv,_⟩ | ⟨g,cap,cur,hv,_⟩
      ·simp only [Value.slice.injEq] at hv
       rw [hv.1] at ha
       cases ha
      ·simp only [Value.slice.injEq] at hv
       rw [hv.1] at ha
       cases ha
       exact ⟨g,0,rfl⟩
     have T5 : RTo x.g o w o4 w5 := by
      have t := G3.out.go.trans T4.out
      rw [yo,yw] at t
      exact ⟨t.mod.trans M fun i hi => Or.inr (by rcases hi with q | q <;> omega),t.at_⟩
     refine ⟨qo,ps.length,qc,rfl,own_cap ky5,own_karg ky5,kb5,hqa,p4,o4,c4,?_,T5,rfl,by omega,by show size bT + p ≤ p4; omega⟩
     refine r5.less (fun b hb => ?_) (Or.inl hSg)
     rcases hb with q | q
     ·exact Or.inl (by rw [yS]; exact q)
     ·exact Or.inr (Or.inr q)
 ·have HN := Lib.hid ((name_no W0 h0 hk).mono fun e w' (k : Stops x o W0 e w' (x.at p)) => Stops.from (RTo.of_bel B) k)
  rw [rdF_n _ _ hk]
  clear h h0 hk hres B hW0
  go_enter Tryz.func68,Tryz.ntmps68
  go_wp2_with fail
  rw [Hw0.out]
  refine HN.out.mono ?_
  rintro e w2 ⟨rfl,H2⟩
  have H2c := Lib.hid H2
  clear H2
  go_wp2_with fail
  exact ⟨rfl,rfl,H2c.out⟩

structure Fw where
 name : Txt
 params : List Txt
 body : Int
deriving DecidableEq
def sizeF : List Fu → Nat
 | [] => 0
 | f :: r => size f.body + sizeF r
def flatF : Nat → List Fu → List Nd
 | _,[] => []
 | b,f :: r => flat b f.body ++ flatF (b + size f.body) r
def funcF : Nat → List Fu → List Fw
 | _,[] => []
 | b,f :: r => ⟨f.name,f.params,((b + size f.body - 1 : Nat) : Int)⟩ :: funcF (b + size f.body) r
theorem sizeF_app : ∀ (a b : List Fu),sizeF (a ++ b) = sizeF a + sizeF b
 | [],b => by rw [List.nil_append,sizeF,Nat.zero_add]
 | f :: r,b => by rw [List.cons_append,sizeF,sizeF,sizeF_app r,Nat.add_assoc]
theorem flatF_app : ∀ (a b : List Fu) (n : Nat),flatF n (a ++ b) = flatF n a ++ flatF (n + sizeF a) b
 | [],b,n => by rw [List.nil_append,sizeF,flatF,List.nil_append,Nat.add_zero]
 | f :: r,b,n => by rw [List.cons_append,flatF,flatF,flatF_app r,sizeF,List.append_assoc,Nat.add_assoc]
theorem funcF_app : ∀ (a b : List Fu) (n : Nat),funcF n (a ++ b) = funcF n a ++ funcF (n + sizeF a) b
 | [],b,n => by rw [List.nil_append,sizeF,funcF,List.nil_append,Nat.add_zero]
 | f :: r,b,n => by rw [List.cons_append,funcF,funcF,funcF_app r,sizeF,List.cons_append,Nat.add_assoc]
theorem funcF_len : ∀ (a : List Fu) (n : Nat),(funcF n a).length = a.length
 | [],_ => rfl
 | f :: r,n => by rw [funcF,List.length_cons,funcF_len r,List.length_cons]
theorem flatF_len : ∀ (a : List Fu) (n : Nat),(flatF n a).length = sizeF a
 | [],_ => rfl
 | f :: r,n => by rw [flatF,List.length_append,flat_len,flatF_len r,sizeF]
structure Fv where
 s : Txt
 po : Option Addr
 k : Nat
 pc : Nat
 j : Int
def encF (v : Fv) : List Value := [.string ⟨v.s.toArray⟩,.slice v.po v.k v.pc,.int .i64 v.j]
def encFs (l : List Fv) : List Value := l.flatMap encF
theorem encF_len (v : Fv) : (encF v).length = 3 := rfl
theorem encFs_len (l : List Fv) : (encFs l).length = l.length * 3 := by
 induction l with
 | nil => rfl
 | cons c r ih =>
  show (encF c ++ encFs r).length = _
  rw [List.length_append,ih,encF_len,List.length_cons]
  omega
theorem encFs_app (a b : List Fv) : encFs (a ++ b) = encFs a ++ encFs b := by simp [encFs]
theorem encFs_one (c : Fv) : encFs [c] = encF c := by simp [encFs]
theorem func_one {v : Fv} : ∀ u ∈ encF v,u.oneCell' = true := fun u hu => by
 simp only [encF,List.mem_cons,List.not_mem_nil,or_false] at hu
 rcases hu with rfl | rfl | rfl <;> rfl
theorem encFs_get {l : List Fv} {i j : Nat} (h : i < l.length) (hj : j < 3) : (encFs l)[i * 3 + j]? = (encF l[i])[j]? := by
 have e : encFs l = encFs (l.take i) ++ (encF l[i] ++ encFs (l.drop (i + 1))) := by
  rw [← encFs_one l[i],← encFs_app,← encFs_app]
  congr 1
  rw [List.singleton_append,← List.drop_eq_getElem_cons h,List.take_append_drop]
 have hl : (encFs (l.take i)).length = i * 3 := by rw [encFs_len,List.length_take,Nat.min_eq_left (by omega)]
 rw [e,List.getElem?_append_right (by omega),hl,List.getElem?_append_left (by rw [encF_len]; omega)]
 congr 1
 omega
theorem info_func : (Tryz.prog.info? 61).map (fun i => (i.zero,i.size,i.bytes)) = some (some (.agg #[.string ByteArray.empty,.slice none 0 0,.int .i64 0]),3,48) := by kernel_rfl
structure FFit (w : World) (v : Fv) (x : Fw) : Prop where
 s : v.s = x.name
 j : v.j = x.body
 ps : KArg w v.po v.k x.params
 pc : v.k ≤ v.pc
 pl : 0 < v.k → ∀ a,v.po = some a → ∃ b off,a = ⟨b,off,none⟩
theorem FFit.mod {F : Nat → Prop} {w w' : World} {v : Fv} {x : Fw} (h : FFit w v x) (m : Mod F w w') (hF : ∀ b,Blk v.po b → ¬ F b) : FFit w' v x :=
 ⟨h.s,h.j,by
  rcases Nat.eq_zero_or_pos v.k with h0 | h0
  ·have e := h.ps.1
   exact ⟨e,fun i hi => by omega⟩
  ·exact h.ps.mod m fun a ha => by
    obtain ⟨b,off,rfl⟩ := h.pl h0 a ha
    exact hF b ⟨off,ha⟩,h.pc,h.pl⟩
def FOwn (U : Nat → Prop) (w : World) (base : Nat) (o : Option Addr) (n c : Nat) (L : List Fw) : Prop :=
 ∃ vs : List Fv,w.ownsRow base 61 3 (.slice o n c) n (encFs vs) ∧ vs.length = L.length ∧ (∀ i (h : i < L.length) (h' : i < vs.length),FFit w vs[i] L[i]) ∧ ∀ v ∈ vs,∀ b,Blk v.po b → U b ∧ ¬ Blk o b
theorem FOwn.nil (U : Nat → Prop) (w : World) (base : Nat) : FOwn U w base none 0 0 [] := ⟨[],World.ownsRow_nil _ _ _ _,rfl,fun i h => absurd h (Nat.not_lt_zero i),fun v h => by cases h⟩
theorem FOwn.blk {U : Nat → Prop} {w : World} {base : Nat} {o : Option Addr} {n c : Nat} {L : List Fw} (h : FOwn U w base o n c L) {k : Nat} (hk : Blk o k) : base ≤ k ∧ k < w.heap.size := by
 obtain ⟨vs,h1,-⟩ := h
 exact h1.lt k ((blk_of h1).1 hk)
theorem FOwn.mod {U F : Nat → Prop} {w w' : World} {base : Nat} {o : Option Addr} {n c : Nat} {L : List Fw} (h : FOwn U w base o n c L) (m : Mod F w w') (hU : ∀ b,U b → ¬ F b) (hB : ∀ b,Blk o b → ¬ F b) : FOwn U w' base o n c L := by
 obtain ⟨vs,h1,h2,h3,h4⟩ := h
 exact ⟨vs,own_kept h1 m (fun b hb => hB b ((blk_of h1).2 hb)),h2,fun i a a' => (h3 i a a').mod m fun b hb => hU b (h4 _ (List.getElem_mem a') b hb).1,h4⟩
theorem own3_shape {w : World} {base : Nat} {e : TypeId} {v : Value} {k : Nat} {xs : List Value} (h : w.ownsRow base e 3 v k xs) : ∃ o c,v = .slice o k c ∧ k ≤ c ∧ ∀ a,o = some a → ∃ b,a = ⟨b,0,none⟩ := by
 rcases h.2 with ⟨hv,hk⟩ | ⟨g,cap,cur,hv,_,_,hc,_⟩
 ·exact ⟨none,0,by rw [hv,hk],by omega,fun a ha => by cases ha⟩
 ·exact ⟨_,_,hv,hc,fun a ha => by cases ha; exact ⟨g,rfl⟩⟩
theorem list_appF {U : Nat → Prop} {Y : World} {base m c g : Nat} {p : Option Addr} {L : List Fw} {x : Fw} {v : Fv} {ops : Array Oper} {rest : List Oper} {o : Oper} {a : Act} {Q : Exit → Act → World → Prop} (s y : Operand)
  (ho : o.op = .call { callee := .builtin .append,args := #[s,y],argTypes := #[23,23] }) (hgd : o.guard = none) (_hty : o.type = 23) (hs : a.eval s = .slice p m c) (hx : a.eval y = .slice (some ⟨g,0,none⟩) 1 1)
  (hb : base ≤ Y.heap.size) (hown : FOwn U Y base p m c L) (hc : ∀ j u,(encF v)[j]? = some u → Y.cell? ((⟨g,0,none⟩ : Addr).add j) = some u) (hv : FFit Y v x) (hU : ∀ b,Blk v.po b → U b ∧ ¬ Blk p b ∧ b < Y.heap.size) (hUl : ∀ b,U b → b < Y.heap.size) (hm : m ≤ 100000)
  (h : ∀ o3 c3 w',Hid (Y.grownBy w' (Value.ownBlock (.slice p m c))) → Hid (FOwn U w' base o3 (m + 1) c3 (L ++ [x])) → Hid (∀ b,Blk o3 b → Blk p b ∨ b = Y.heap.size) → wpList Tryz.prog ops Q rest (a.put o.dst (.slice o3 (m + 1) c3)) w') : wpList Tryz.prog ops Q (o :: rest) a Y := by
 obtain ⟨i0,hi,hz0,hz1,hz2⟩ := info_parts info_func
 obtain ⟨vs,h1,h2,h3,h4⟩ := hown
 refine wpList_append_own_at _ hgd s y 23 ho base 61 i0 _ 3 48 Tryz.underlying23 hi hz0 hz1 hz2 rfl (by decide) _ m _ hs h1 ⟨g,0,none⟩ 1 1 (encF v) hx rfl hc func_one (by unfold maxLen; omega) (by omega) hb ?_
 intro v' w' ho' hg _ hat
 obtain ⟨o3,c3,rfl,-,-⟩ := own3_shape ho'
 have hm2 : Mod (fun k => Blk p k) Y w' := Mod.grown hg (fun i hi => (blk_of h1).2 hi)
 have hB : ∀ b,Blk o3 b → Blk p b ∨ b = Y.heap.size := fun b hb => by
  have k1 := (blk_of ho').1 hb
  rcases hat with q | q
  ·rw [q] at k1
   exact Or.inl ((blk_of h1).2 k1)
  ·rw [q] at k1
   exact Or.inr (Option.some.inj k1).symm
 refine h o3 c3 w' (Lib.hid hg) (Lib.hid ⟨vs ++ [v],by rw [encFs_app,encFs_one]; exact ho',by simp [h2],fun i a a' => ?_,fun u hu b hb => ?_⟩) (Lib.hid hB)
 ·rcases Nat.lt_or_ge i vs.length with hi | hi
  ·rw [List.getElem_append_left hi,List.getElem_append_left (by omega)]
   exact (h3 i (by omega) hi).mod hm2 fun b hb => (h4 _ (List.getElem_mem hi) b hb).2
  ·have e : i = vs.length := by simp at a'; omega
   subst e
   have e2 : (vs ++ [v])[vs.length] = v := by simp
   have e3 : (L ++ [x])[vs.length] = x := by simp [h2]
   rw [e2,e3]
   exact hv.mod hm2 fun b hb => (hU b hb).2.1
 ·have q : U b ∧ ¬ Blk p b := by
   rcases List.mem_append.1 hu with hu | hu
   ·exact h4 u hu b hb
   ·rw [List.mem_singleton.1 hu] at hb
    exact ⟨(hU b hb).1,(hU b hb).2.1⟩
  refine ⟨q.1,fun z => ?_⟩
  rcases hB b z with z | z
  ·exact q.2 z
  ·have := hUl b q.1
   omega
def NArg (w : World) (o : Option Addr) (n : Nat) (L : List Nd) : Prop := L.length = n ∧ (0 < n → ∃ b off,o = some ⟨b,off,none⟩ ∧ ∀ i (h : i < L.length),∃ v : Nv,NFit w v L[i] ∧ ∀ j u,(encV v)[j]? = some u → w.cell? ⟨b,off + i * 5 + j,none⟩ = some u)
def FArg (w : World) (o : Option Addr) (n : Nat) (L : List Fw) : Prop := L.length = n ∧ (0 < n → ∃ b off,o = some ⟨b,off,none⟩ ∧ ∀ i (h : i < L.length),∃ v : Fv,FFit w v L[i] ∧ ∀ j u,(encF v)[j]? = some u → w.cell? ⟨b,off + i * 3 + j,none⟩ = some u)
theorem NOwn.arg {S : Nat → Prop} {w : World} {base : Nat} {o : Option Addr} {n c : Nat} {L : List Nd} (h : NOwn S w base o n c L) : NArg w o n L := by
 have hn := h.num
 obtain ⟨vs,h1,h2,h3,-⟩ := h
 refine ⟨hn,fun h0 => ?_⟩
 obtain ⟨b,rfl,-,-,-⟩ := own_at h1 h0
 refine ⟨b,0,rfl,fun i hi => ⟨vs[i]'(by omega),h3 i hi (by omega),fun j u hu => ?_⟩⟩
 have hj : j < 5 := by
  rcases Nat.lt_or_ge j 5 with q | q
  ·exact q
  ·rw [List.getElem?_eq_none (by rw [encV_len]; exact q)] at hu
   cases hu
 rw [Nat.zero_add]
 exact own_cell h1 rfl (by rw [encVs_get (by omega) hj]; exact hu)
theorem FOwn.arg {U : Nat → Prop} {w : World} {base : Nat} {o : Option Addr} {n c : Nat} {L : List Fw} (h : FOwn U w base o n c L) : FArg w o n L := by
 obtain ⟨vs,h1,h2,h3,-⟩ := h
 have hn : L.length = n := by have := h1.1; rw [encFs_len] at this; omega
 refine ⟨hn,fun h0 => ?_⟩
 obtain ⟨b,rfl,-,-,-⟩ := own_at h1 h0
 refine ⟨b,0,rfl,fun i hi => ⟨vs[i]'(by omega),h3 i hi (by omega),fun j u hu => ?_⟩⟩
 have hj : j < 3 := by
  rcases Nat.lt_or_ge j 3 with q | q
  ·exact q
  ·rw [List.getElem?_eq_none (by rw [encF_len]; exact q)] at hu
   cases hu
 rw [Nat.zero_add]
 exact own_cell h1 rfl (by rw [encFs_get (by omega) hj]; exact hu)
theorem NArg.on {w w' : World} {o : Option Addr} {n : Nat} {L : List Nd} (h : NArg w o n L) (g : Bel w w') : NArg w' o n L :=
 ⟨h.1,fun h0 => let ⟨b,off,e,k⟩ := h.2 h0; ⟨b,off,e,fun i hi => let ⟨v,h1,h2⟩ := k i hi; ⟨v,h1.on g,fun j u hu => g.cell' (h2 j u hu)⟩⟩⟩
theorem FFit.on {w w' : World} {v : Fv} {x : Fw} (h : FFit w v x) (g : Bel w w') : FFit w' v x := ⟨h.s,h.j,h.ps.on g,h.pc,h.pl⟩
theorem FArg.on {w w' : World} {o : Option Addr} {n : Nat} {L : List Fw} (h : FArg w o n L) (g : Bel w w') : FArg w' o n L :=
 ⟨h.1,fun h0 => let ⟨b,off,e,k⟩ := h.2 h0; ⟨b,off,e,fun i hi => let ⟨v,h1,h2⟩ := k i hi; ⟨v,h1.on g,fun j u hu => g.cell' (h2 j u hu)⟩⟩⟩

theorem rdG_go {n : Nat} {fs : List Fu} {f : Fu} {r r' : List Ck} (h : isT [102,117,110,99] (hd r) = true) (hg : rdF n r.tail = .ok f r') : rdG (n + 1) fs r = rdG n (fs ++ [f]) r' := by rw [rdG,if_pos h,hg]
theorem rdG_bad {n : Nat} {fs : List Fu} {r r' : List Ck} (h : isT [102,117,110,99] (hd r) = true) (hg : rdF n r.tail = .bad r') : rdG (n + 1) fs r = .bad r' := by rw [rdG,if_pos h,hg]
theorem rdG_end {n : Nat} {fs : List Fu} : rdG (n + 1) fs [] = .ok fs [] := by
 rw [rdG,if_neg (by decide),if_pos rfl]
theorem rdG_no {n : Nat} {fs : List Fu} {r : List Ck} (h : isT [102,117,110,99] (hd r) = false) (h2 : r ≠ []) : rdG (n + 1) fs r = .bad r := by
 rw [rdG,if_neg (by rw [h]; decide),if_neg h2]
inductive It where
 | tok (c : Ck)
 | gap (b : UInt8)
def tk (c : Ck) : Lex.Tk := ⟨c.1,c.2.1,c.2.2,0⟩
def txI : It → Txt
 | .tok c => Lex.wrt (tk c)
 | .gap b => [b]
def txt (l : List It) : Txt := l.flatMap txI
def ckI : It → Option Ck
 | .tok c => some c
 | .gap _ => none
def cks (l : List It) : List Ck := l.filterMap ckI
theorem txt_app (a b : List It) : txt (a ++ b) = txt a ++ txt b := by simp [txt]
def wI (s : Txt) : It := .tok (2,s,0)
def sI (s : Txt) : It := .tok (5,s,0)
def nI (s : Txt) : It := .tok (1,s,0)
def sp : It := .gap 32
def binL (s : Txt) : Nat :=
 if s = [111,114] then 1 else if s = [97,110,100] then 2 else if (opsL 4).contains s then 4 else if (opsL 5).contains s then 5 else if (opsL 6).contains s then 6 else 0
def unaL (s : Txt) : Nat := if s = [110,111,116] then 3 else 7
def lvN (k : Int) (s : Txt) : Nat := if k = 8 then unaL s else if k = 9 then binL s else if k = 10 then 8 else 9
def lvT : T → Nat
 | .node k s _ _ _ => lvN k s
def leftL (l : Nat) : Nat := if l = 4 then 5 else l
def needL (k : Int) (s : Txt) (j : Nat) : Nat :=
 if k = 8 then unaL s else if k = 9 then (if j = 0 then leftL (binL s) else binL s + 1) else if k = 10 then (if j = 0 then 8 else 1) else 1
def sep : List (List It) → List It
 | [] => []
 | [a] => a
 | a :: r => a ++ sI [44] :: sp :: sep r
def keyed : List Txt → List (List It) → List (List It)
 | k :: ks,a :: r => (.tok (4,k,0) :: sI [58] :: sp :: a) :: keyed ks r
 | _,_ => []
def opI (s : Txt) : It := if binL s ≤ 2 then wI s else sI s
def part (l : List (List It)) (j : Nat) : List It := l.getD j []
def bareI (k : Int) (s : Txt) (i : Int) (keys : List Txt) (l : List (List It)) : List It :=
 if k = 6 then sI [91] :: sep l ++ [sI [93]]
 else if k = 7 then sI [123] :: sep (keyed keys l) ++ [sI [125]]
 else if k = 8 then (if s = [110,111,116] then wI s :: sp :: part l 0 else sI [45] :: part l 0)
 else if k = 9 then part l 0 ++ sp :: opI s :: sp :: part l 1
 else if k = 10 then part l 0 ++ sI [91] :: part l 1 ++ [sI [93]]
 else if k = 11 then nI s :: sI [40] :: sep l ++ [sI [41]]
 else if k = 12 then .tok (6,s,0) :: sI [40] :: sep l ++ [sI [41]]
 else if k = 2 then (if i = 0 then [wI [102,97,108,115,101]] else [wI [116,114,117,101]])
 else if k = 3 then [.tok (3,[],i)]
 else if k = 4 then [.tok (4,s,0)]
 else if k = 5 then [nI s]
 else [wI [110,117,108,108]]
mutual
def itE : T → List It
 | .node k s i keys ts => bareI k s i keys (itA (needL k s) 0 ts)
def itA (f : Nat → Nat) : Nat → Ts → List (List It)
 | _,.nil => []
 | j,.cons t r => (if lvT t < f j then sI [40] :: itE t ++ [sI [41]] else itE t) :: itA f (j + 1) r
end
def opd (need : Nat) (t : T) : List It := if lvT t < need then sI [40] :: itE t ++ [sI [41]] else itE t
def tabs (d : Nat) : List It := List.replicate d (.gap 9)
def firstI : Ts → List It
 | .nil => []
 | .cons t _ => opd 1 t
def stI (k : Int) (s : Txt) (e : List It) (l : List (List It)) : List It :=
 if k = 13 then wI [108,101,116] :: sp :: nI s :: sp :: sI [61] :: sp :: e ++ [sI [59]]
 else if k = 14 then nI s :: sp :: sI [61] :: sp :: e ++ [sI [59]]
 else if k = 15 then wI [105,102] :: sp :: e ++ sp :: part l 1 ++ (if l.length = 3 then sp :: wI [101,108,115,101] :: sp :: part l 2 else [])
 else if k = 16 then wI [119,104,105,108,101] :: sp :: e ++ sp :: part l 1
 else if k = 17 then wI [114,101,116,117,114,110] :: sp :: e ++ [sI [59]]
 else e ++ [sI [59]]
mutual
def itS (d : Nat) : T → List It
 | .node k s _ _ ts => stI k s (firstI ts) (itBs d ts)
def itBs (d : Nat) : Ts → List (List It)
 | .nil => []
 | .cons t r => itB d t :: itBs d r
def itB (d : Nat) : T → List It
 | .node _ _ _ _ ts => sI [123] :: .gap 10 :: lines (d + 1) ts ++ tabs d ++ [sI [125]]
def lines (d : Nat) : Ts → List It
 | .nil => []
 | .cons t r => tabs d ++ itS d t ++ .gap 10 :: lines d r
end
def itF (f : Fu) : List It :=
 wI [102,117,110,99] :: sp :: nI f.name :: sI [40] :: sep (f.params.map fun s => [nI s]) ++ sI [41] :: sp :: itB 0 f.body ++ [.gap 10]
def itW (fs : List Fu) : List It := fs.flatMap itF
mutual
def At (L : List Nd) : Nat → T → Prop
 | z,.node k s i keys ts => ∃ kids,L[z]? = some ⟨k,s,i,keys,kids⟩ ∧ Ats L kids ts
def Ats (L : List Nd) : List Int → Ts → Prop
 | ks,.nil => ks = []
 | ks,.cons t r => ∃ (z : Nat) (l : List Int),ks = (z : Int) :: l ∧ At L z t ∧ Ats L l r
end
mutual
theorem at_flat : ∀ (t : T) (A B : List Nd),At (A ++ flat A.length t ++ B) (A.length + size t - 1) t
 | .node k s i keys ts,A,B => by
  unfold At
  refine ⟨roots A.length ts,?_,?_⟩
  ·rw [flat,size,List.append_assoc,List.getElem?_append_right (by omega),List.append_assoc,List.getElem?_append_right (by rw [flats_len]; omega),flats_len]
   rw [show A.length + (sizes ts + 1) - 1 - A.length - sizes ts = 0 by omega]
   rfl
  ·have := ats_flat ts A ([⟨k,s,i,keys,roots A.length ts⟩] ++ B)
   rw [flat,← List.append_assoc A,List.append_assoc (A ++ _)]
   exact this
theorem ats_flat : ∀ (ts : Ts) (A B : List Nd),Ats (A ++ flats A.length ts ++ B) (roots A.length ts) ts
 | .nil,A,B => by
  unfold Ats
  rfl
 | .cons t r,A,B => by
  unfold Ats
  refine ⟨A.length + size t - 1,roots (A.length + size t) r,rfl,?_,?_⟩
  ·have := at_flat t A (flats (A.length + size t) r ++ B)
   rw [flats,← List.append_assoc A,List.append_assoc (A ++ _)]
   exact this
  ·have := ats_flat r (A ++ flat A.length t) B
   rw [List.length_append,flat_len] at this
   rw [flats,← List.append_assoc A]
   exact this
end
theorem ats_len {L : List Nd} : ∀ {ts : Ts} {ks : List Int},Ats L ks ts → ks.length = count ts
 | .nil,ks,h => by
  unfold Ats at h
  rw [h]
  rfl
 | .cons t r,ks,h => by
  unfold Ats at h
  obtain ⟨z,l,rfl,-,h2⟩ := h
  rw [List.length_cons,ats_len h2,count]
theorem at_func : ∀ (F : List Fu) (A B : List Nd) (i : Nat) (h : i < F.length),∃ z : Nat,(funcF A.length F)[i]? = some ⟨F[i].name,F[i].params,(z : Int)⟩ ∧ At (A ++ flatF A.length F ++ B) z F[i].body
 | [],A,B,i,h => absurd h (Nat.not_lt_zero i)
 | f :: r,A,B,0,h => by
  refine ⟨A.length + size f.body - 1,rfl,?_⟩
  have := at_flat f.body A (flatF (A.length + size f.body) r ++ B)
  rw [flatF,← List.append_assoc A,List.append_assoc (A ++ _)]
  exact this
 | f :: r,A,B,i + 1,h => by
  obtain ⟨z,h1,h2⟩ := at_func r (A ++ flat A.length f.body) B i (by simpa using h)
  rw [List.length_append,flat_len] at h1 h2
  refine ⟨z,h1,?_⟩
  rw [flatF,← List.append_assoc A]
  exact h2
end Syn
end Go.Proofs.YtcapkeaedpabjaaGreatDoor
