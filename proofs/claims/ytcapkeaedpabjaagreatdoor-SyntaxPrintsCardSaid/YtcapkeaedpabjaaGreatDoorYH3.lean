/-
  Layer 8, texts merged: SpH, SpQ, SpJ, SpK, SpO. For every argument within the bounds that each theorem names.
-/
import Derived.Test.YtcapkeaedpabjaaGreatDoorYH2
import Derived.Test.YtcapkeaedpabjaaGreatDoorYE2
import Derived.Test.YtcapkeaedpabjaaGreatDoorYI1
import Derived.Test.YtcapkeaedpabjaaGreatDoorYG3
import Derived.Test.YtcapkeaedpabjaaGreatDoorYF6
set_option maxRecDepth 100000
set_option maxHeartbeats 16000000

/-
 Layer 8: Parse at a text with tokens, as the program has it.
-/
namespace Go.Proofs.YtcapkeaedpabjaaGreatDoor
open Go.RowKit Go.ChangeShapes Go.WideShapes
namespace Syn

theorem own_setZ {w : World} {base : Nat} {e : TypeId} {z : Nat} {v : Value} {n : Nat} {xs : List Value} (h : w.ownsRow base e z v n xs) {p : Addr} (hp : p.block < base) (u : Value) : (w.setCell p u).ownsRow base e z v n xs :=
 own_kept (F := fun k => k = p.block) h (Mod.setCell (F := fun k => k = p.block) (Mod.refl _ w) (p := p) (Or.inl rfl) u) (fun b hb q => by have := h.lt b hb; omega)
theorem fz_set {w : World} {p q : Addr} {u : Value} (h : w.frozen? q = false) : (w.setCell p u).frozen? q = false := by rw [World.frozen?_setCell]; exact h
structure PV (b2 b3 b4 : Nat) (W : World) : Prop where
 c0 : ∃ v,W.cell? ⟨b2,0,none⟩ = some v
 c1 : ∃ v,W.cell? ⟨b2,1,none⟩ = some v
 c3 : ∃ x,W.cell? ⟨b3,0,none⟩ = some (.int .i64 x)
 c4 : ∃ x,W.cell? ⟨b4,0,none⟩ = some (.int .i64 x)
 f2 : ∀ j,W.frozen? ⟨b2,j,none⟩ = false
 f3 : W.frozen? ⟨b3,0,none⟩ = false
 f4 : W.frozen? ⟨b4,0,none⟩ = false
theorem PV.mod {F : Nat → Prop} {b2 b3 b4 : Nat} {W W' : World} (h : PV b2 b3 b4 W) (m : Mod F W W') (h2 : ¬ F b2) (h3 : ¬ F b3) (h4 : ¬ F b4) : PV b2 b3 b4 W' := by
 obtain ⟨v0,c0⟩ := h.c0
 obtain ⟨v1,c1⟩ := h.c1
 obtain ⟨x3,c3⟩ := h.c3
 obtain ⟨x4,c4⟩ := h.c4
 have l2 : b2 < W.heap.size := cell_lt' c0
 have l3 : b3 < W.heap.size := cell_lt' c3
 have l4 : b4 < W.heap.size := cell_lt' c4
 exact ⟨⟨v0,m.cell c0 h2⟩,⟨v1,m.cell c1 h2⟩,⟨x3,m.cell c3 h3⟩,⟨x4,m.cell c4 h4⟩,fun j => (World.frozen?_of_block (a := ⟨b2,j,none⟩) (m.block _ l2 h2)).trans (h.f2 j),(World.frozen?_of_block (a := ⟨b3,0,none⟩) (m.block _ l3 h3)).trans h.f3,(World.frozen?_of_block (a := ⟨b4,0,none⟩) (m.block _ l4 h4)).trans h.f4⟩
theorem own_len {w : World} {base : Nat} {o : Option Addr} {n c : Nat} {l : List Lex.Tk} (h : w.ownsRow base 54 4 (.slice o n c) n (Lex.encT l)) : l.length = n := by
 have := h.1
 rw [Lex.encT_len] at this
 omega
theorem rs_made {Z : Nat → Prop} {W : World} (hZ : ∀ b,Z b → b < W.heap.size) {base : Nat} {o : Option Addr} {m c : Nat} {l : List Lex.Tk} {z : Int} (hl : l.length ≤ 1000) (h : W.ownsRow base 54 4 (.slice o (m + 1) c) (m + 1) (Lex.encT (l ++ [⟨0,[],0,z⟩]))) (ty : TypeId) :
  ∃ tb,o = some ⟨tb,0,none⟩ ∧ base ≤ tb ∧ tb < W.heap.size ∧ RS (cxOf W.heap.size (W.alloc (.cells #[.slice o (m + 1) c,.slice none 0 0] ty)).heap.size tb c l z) (fun b => b = W.heap.size ∨ Z b) 0 none 0 0 [] (W.alloc (.cells #[.slice o (m + 1) c,.slice none 0 0] ty)) := by
 have hn := own_len h
 rw [List.length_append,List.length_singleton] at hn
 have hc := own_cap h
 obtain ⟨tb,rfl,hb,hlt⟩ := own_at h (by omega)
 have hA := (Lex.own_tArg h).2 (by omega)
 obtain ⟨b,off,e,hcs⟩ := hA
 simp only [Option.some.injEq,Addr.mk.injEq] at e
 obtain ⟨rfl,rfl,-⟩ := e
 have hpl : (pairs l).length = l.length := by unfold pairs; rw [List.length_map]
 have B : Bel W (W.alloc (.cells #[.slice (some ⟨tb,0,none⟩) (m + 1) c,.slice none 0 0] ty)) := Bel.alloc (Bel.refl W) _
 have hs := Lex.size_alloc2 W (.cells #[.slice (some ⟨tb,0,none⟩) (m + 1) c,.slice none 0 0] ty)
 refine ⟨tb,rfl,hb,hlt.1,⟨⟨m,c - 1,?_,?_,by omega,?_⟩,fun i hi => ?_,fun j => World.frozen?_alloc_new _ _ _ _,?_,?_⟩,World.cell?_alloc_new ..,NOwn.nil _ _ _,?_,Or.inl rfl,?_,Nat.zero_le _⟩
 ·rw [show c - 1 + 1 = c by omega]
  exact World.cell?_alloc_new ..
 ·show m + 0 = (pairs l).length
  omega
 ·show c - 1 + 1 + 0 = c
  omega
 ·have hi2 : i ≤ l.length := by rw [← hpl]; exact hi
  have k := hcs i (by rw [List.length_append,List.length_singleton]; omega)
  rw [Nat.zero_add] at k
  have kk := k.on B
  rcases Nat.lt_or_ge i l.length with g | g
  ·rw [List.getElem_append_left g] at kk
   have e : (cxOf W.heap.size (W.alloc (.cells #[.slice (some ⟨tb,0,none⟩) (m + 1) c,.slice none 0 0] ty)).heap.size tb c l z).tok i = (Lex.core l[i],l[i].a) := by
    show ((pairs l)[i]?).getD _ = _
    unfold pairs
    rw [List.getElem?_map,List.getElem?_eq_getElem g]
    rfl
   rw [e]
   exact kk
  ·have : i = l.length := by omega
   subst this
   have e1 : (l ++ [(⟨0,[],0,z⟩ : Lex.Tk)])[l.length]'(by simp) = ⟨0,[],0,z⟩ := by simp
   rw [e1] at kk
   have e : (cxOf W.heap.size (W.alloc (.cells #[.slice (some ⟨tb,0,none⟩) (m + 1) c,.slice none 0 0] ty)).heap.size tb c l z).tok l.length = ((0,[],0),z) := by
    show ((pairs l)[l.length]?).getD _ = _
    rw [List.getElem?_eq_none (by omega)]
    rfl
   rw [e]
   exact kk
 ·show (pairs l).length ≤ 1000
  omega
 ·show tb ≠ W.heap.size
  omega
 ·exact ⟨by show W.heap.size < (W.alloc _).heap.size; rw [hs]; omega,by show tb < (W.alloc _).heap.size; rw [hs]; omega,Nat.le_refl _⟩
 ·intro b hb2
  exact ⟨by rcases hb2 with q | q; rw [q,hs]; omega; have := hZ b q; rw [hs]; omega,fun ⟨_,q⟩ => by cases q⟩
theorem parse_rd (s : ByteArray) (w : World) (hML : Lex.ML w) (he : (Lex.tokens s.toList).e = 0) (f : Nat) (hf : 20 * (Lex.tokens s.toList).l.length + 1 ≤ f) : Calls Tryz.prog 8 #[.string s] w fun e w' => ParseOk (Lex.tokens s.toList).l (s.size : Int) (rdG f [] ((Lex.tokens s.toList).l.map Lex.core)) w' e ∧ Bel w w' := by
 obtain ⟨V1,hV1⟩ : ∃ V,w.alloc (.cells #[.slice none 0 0,.slice none 0 0] 25) = V := ⟨_,rfl⟩
 obtain ⟨V2,hV2⟩ : ∃ V,V1.alloc (.cells #[.int .i64 0] 3) = V := ⟨_,rfl⟩
 obtain ⟨V3,hV3⟩ : ∃ V,V2.alloc (.cells #[.int .i64 0] 26) = V := ⟨_,rfl⟩
 have B1 : Bel w V1 := by rw [← hV1]; exact Bel.alloc (Bel.refl w) _
 have B2 : Bel V1 V2 := by rw [← hV2]; exact Bel.alloc (Bel.refl V1) _
 have B3 : Bel V2 V3 := by rw [← hV3]; exact Bel.alloc (Bel.refl V2) _
 have c20 : V3.cell? ⟨w.heap.size,0,none⟩ = some (.slice none 0 0) := B3.cell' (B2.cell' (by rw [← hV1]; exact World.cell?_alloc_new ..))
 have c21 : V3.cell? ⟨w.heap.size,1,none⟩ = some (.slice none 0 0) := B3.cell' (B2.cell' (by rw [← hV1]; exact World.cell?_alloc_new ..))
 have c3 : V3.cell? ⟨V1.heap.size,0,none⟩ = some (.int .i64 0) := B3.cell' (by rw [← hV2]; exact World.cell?_alloc_new ..)
 have c4 : V3.cell? ⟨V2.heap.size,0,none⟩ = some (.int .i64 0) := by rw [← hV3]; exact World.cell?_alloc_new ..
 have hs1 : V1.heap.size = w.heap.size + 1 := by rw [← hV1]; exact Lex.size_alloc2 _ _
 have hs2 : V2.heap.size = V1.heap.size + 1 := by rw [← hV2]; exact Lex.size_alloc2 _ _
 have hs3 : V3.heap.size = V2.heap.size + 1 := by rw [← hV3]; exact Lex.size_alloc2 _ _
 have f2 : ∀ j,V3.frozen? ⟨w.heap.size,j,none⟩ = false := fun j => by
  have h1 : V1.frozen? ⟨w.heap.size,j,none⟩ = false := by rw [← hV1]; exact World.frozen?_alloc_new _ _ _ _
  have h2 := (World.frozen?_of_block (a := ⟨w.heap.size,j,none⟩) (B2.block w.heap.size (by omega))).trans h1
  exact (World.frozen?_of_block (a := ⟨w.heap.size,j,none⟩) (B3.block w.heap.size (by omega))).trans h2
 have f3 : V3.frozen? ⟨V1.heap.size,0,none⟩ = false := by
  have h1 : V2.frozen? ⟨V1.heap.size,0,none⟩ = false := by rw [← hV2]; exact World.frozen?_alloc_new _ _ _ _
  exact (World.frozen?_of_block (a := ⟨V1.heap.size,0,none⟩) (B3.block V1.heap.size (by omega))).trans h1
 have f4 : V3.frozen? ⟨V2.heap.size,0,none⟩ = false := by rw [← hV3]; exact World.frozen?_alloc_new _ _ _ _
 have HT := Lib.hid (Lex.tokens_own s V3)
 have HTF := Lib.hid (Lex.tokens_facts he)
 have HB := Lib.hid (Bel.trans B1 (Bel.trans B2 B3))
 have HM := Lib.hid hML
 have Hs := Lib.hid (show V1.heap.size = w.heap.size + 1 ∧ V2.heap.size = V1.heap.size + 1 ∧ V3.heap.size = V2.heap.size + 1 from ⟨hs1,hs2,hs3⟩)
 have hmf : ∀ (fn : Fn) (first cap : Array Value) (w : World),(Instr.makeFunc fn first cap).run Tryz.prog w = .ok (.func fn first cap) w := fun _ _ _ _ => rfl
 obtain ⟨X,hX⟩ : ∃ X,rdG f [] ((Lex.tokens s.toList).l.map Lex.core) = X := ⟨_,rfl⟩
 have HX := Lib.hid hX
 rw [hX]
 have hssz := Lex.toL_len s
 have hs4 : s.size ≤ 4000 := by
  rcases Nat.lt_or_ge 4000 s.size with q | q
  ·unfold Lex.tokens at he
   rw [if_pos (by rw [hssz]; exact q)] at he
   cases he
  ·exact q
 rw [hssz] at HTF
 generalize Lex.tokens s.toList = R at *
 have Hf := Lib.hid hf
 clear B1 B2 B3 hs1 hs2 hs3 hML hX hssz hf
 go_enter_defers Tryz.func8,Tryz.ntmps8
 go_wp2_with fail
 refine HT.out.mono ?_
 rintro e w1 ⟨⟨o,n,c,rfl,hO⟩,g⟩
 obtain ⟨q1,q2,q3⟩ := Hs.out
 have hsz : V3.heap.size ≤ w1.heap.size := g.size
 have f2 : ∀ j,w1.frozen? ⟨w.heap.size,j,none⟩ = false := fun j => (World.frozen?_of_block (a := ⟨w.heap.size,j,none⟩) (g.block w.heap.size (by omega))).trans (f2 j)
 have f3 : w1.frozen? ⟨V1.heap.size,0,none⟩ = false := (World.frozen?_of_block (a := ⟨V1.heap.size,0,none⟩) (g.block V1.heap.size (by omega))).trans f3
 have f4 : w1.frozen? ⟨V2.heap.size,0,none⟩ = false := (World.frozen?_of_block (a := ⟨V2.heap.size,0,none⟩) (g.block V2.heap.size (by omega))).trans f4
 have c20 := g.cell' c20
 have c21 := g.cell' c21
 have c3 := g.cell' c3
 have c4 := g.cell' c4
 have n1 : ¬ w.heap.size = V1.heap.size := by omega
 have n2 : ¬ w.heap.size = V2.heap.size := by omega
 have n3 : ¬ V1.heap.size = V2.heap.size := by omega
 have n4 : ¬ V1.heap.size = w.heap.size := by omega
 have n5 : ¬ V2.heap.size = w.heap.size := by omega
 have n6 : ¬ V2.heap.size = V1.heap.size := by omega
 rw [he]
 obtain ⟨W1,hW1⟩ : ∃ W1,(w1.setCell ⟨V1.heap.size,0,none⟩ (.int .i64 (R.p : Int))).setCell ⟨V2.heap.size,0,none⟩ (.int .i64 0) = W1 := ⟨_,rfl⟩
 have k20 : W1.cell? ⟨w.heap.size,0,none⟩ = some (.slice none 0 0) := by rw [← hW1]; exact otherC _ (otherC _ c20 (adN n4)) (adN n5)
 have k21 : W1.cell? ⟨w.heap.size,1,none⟩ = some (.slice none 0 0) := by rw [← hW1]; exact otherC _ (otherC _ c21 (adN n4)) (adN n5)
 have k3 : W1.cell? ⟨V1.heap.size,0,none⟩ = some (.int .i64 (R.p : Int)) := by rw [← hW1]; exact otherC _ (sameC _ c3) (adN n6)
 have k4 : W1.cell? ⟨V2.heap.size,0,none⟩ = some (.int .i64 0) := by rw [← hW1]; exact sameC _ (otherC _ c4 (adN n3))
 have hPV := Lib.hid (show PV w.heap.size V1.heap.size V2.heap.size W1 from ⟨⟨_,k20⟩,⟨_,k21⟩,⟨_,k3⟩,⟨_,k4⟩,fun j => by rw [← hW1]; exact fz_set (fz_set (f2 j)),by rw [← hW1]; exact fz_set (fz_set f3),by rw [← hW1]; exact fz_set (fz_set f4)⟩)
 have hO1 : W1.ownsRow V3.heap.size 54 4 (.slice o n c) n (Lex.encT R.l) := by rw [← hW1]; exact own_setZ (own_setZ hO (by show V1.heap.size < _; omega) _) (by show V2.heap.size < _; omega) _
 have HG1 := Lib.hid (show Bel w W1 by rw [← hW1]; exact ((Bel.trans HB.out g).setCell (by show _ ≤ V1.heap.size; omega) _).setCell (by show _ ≤ V2.heap.size; omega) _)
 have hsz1 : V3.heap.size ≤ W1.heap.size := by rw [← hW1]; simpa [World.setCell] using hsz
 have hln := own_len hO
 obtain ⟨Y,hY⟩ : ∃ Y,W1.alloc (.cells #[.int .i64 0,.string ⟨#[]⟩,.int .i64 0,.int .i64 (s.size : Int)] 54) = Y := ⟨_,rfl⟩
 have BY : Bel W1 Y := by rw [← hY]; exact Bel.alloc (Bel.refl W1) _
 have hO2 := Lib.hid (own_kept hO1 (Mod.of_bel (F := fun _ => False) BY) (fun _ _ k => k))
 have hTA := Lib.hid (show Lex.TAt Y W1.heap.size 0 ⟨0,[],0,(s.size : Int)⟩ by rw [← hY]; have := Lex.TAt.new W1 0 0 (s.size : Int) ⟨#[]⟩ 54; rwa [show (⟨#[]⟩ : ByteArray).toList = [] from tlB []] at this)
 have HGY := Lib.hid (show Mod (fun _ => False) W1 Y from Mod.of_bel BY)
 have hbase := Lib.hid (show V3.heap.size ≤ Y.heap.size from Nat.le_trans hsz1 BY.size)
 have hnn : n ≤ 100000 := by have := HTF.out.1; omega
 have HO1 := Lib.hid hO1
 have Hsz1 := Lib.hid hsz1
 have Hln := Lib.hid hln
 have F2 : ∀ j,W1.frozen? ⟨w.heap.size,j,none⟩ = false := hPV.out.f2
 clear hV1 hV2 hV3 HT g hO hO1 q1 q2 q3 hsz hsz1 BY hln HB he
 go_wp2_with (at_builtin; refine Lex.list_tokG ⟨0,[],0,(s.size : Int)⟩ _ _ rfl rfl rfl rfl rfl hbase.out hO2.out hTA.out hnn ?_; intro o9 c9 w3 g3 h3; refine Hid.out ?_)
 refine Lib.hid ?_
 obtain ⟨q1,q2,q3⟩ := Hs.out
 have hblk : ∀ k,Blk o k → V3.heap.size ≤ k := fun k hk => (HO1.out.lt k ((blk_of HO1.out).1 hk)).1
 have hPV3 : PV w.heap.size V1.heap.size V2.heap.size w3 := (hPV.out.mod HGY.out (fun q => q) (fun q => q) (fun q => q)).mod g3.out (fun q => by have := hblk _ q; omega) (fun q => by have := hblk _ q; omega) (fun q => by have := hblk _ q; omega)
 have hB3 : Bel w w3 := Mod.bel_of (Mod.bel_of HG1.out HGY.out (fun i q => q.elim)) g3.out (fun i q => by have := hblk i q; omega)
 obtain ⟨tb,rfl,ht1,ht2,hRS⟩ := rs_made (Z := fun b => b = w.heap.size ∨ b = V1.heap.size ∨ b = V2.heap.size) (fun b hb => by have := g3.out.size; have := hbase.out; omega) HTF.out.1 h3.out 56
 obtain ⟨W5,hW5⟩ : ∃ W5,w3.alloc (.cells #[.slice (some ⟨tb,0,none⟩) (n + 1) c9,.slice none 0 0] 56) = W5 := ⟨_,rfl⟩
 rw [hW5] at hRS
 have B5 : Bel w3 W5 := by rw [← hW5]; exact Bel.alloc (Bel.refl w3) _
 have hPV5 := Lib.hid (hPV3.mod (Mod.of_bel (F := fun _ => False) B5) (fun q => q) (fun q => q) (fun q => q))
 have hB5 := Lib.hid (Bel.trans hB3 B5)
 have hw3 : w.heap.size + 3 ≤ w3.heap.size := by have := g3.out.size; have := hbase.out; omega
 have hx0 := cx_at w3.heap.size W5.heap.size tb c9 R.l (s.size : Int) 0
 rw [List.drop_zero] at hx0
 have HPr := Lib.hid (program_any2 (Z := fun b => b = w.heap.size ∨ b = V1.heap.size ∨ b = V2.heap.size) (x := cxOf w3.heap.size W5.heap.size tb c9 R.l (s.size : Int)) (fun t ht => by
  obtain ⟨u,hu,rfl⟩ := List.mem_map.1 ht
  exact Lex.ok_kind (HTF.out.2 u hu).1) W5 (fun b hb => by have := g3.out.size; have := hbase.out; have := B5.size; omega) hRS f (by
  show 20 * (pairs R.l).length + 1 ≤ f
  unfold pairs
  rw [List.length_map]
  exact Hf.out))
 rw [hx0,HX.out] at HPr
 have HRS := Lib.hid hRS
 have Hw3 := Lib.hid hw3
 have HTF2 := HTF
 have HW5 := Lib.hid hW5
 clear hW5 hPV3 hB3 ht1 ht2 hRS B5 hw3 hx0 q1 q2 q3 hblk g3 h3 hbase hO2 hTA
 go_wp2_with fail
 rw [HW5.out]
 cases X with
 | bad r =>
  refine HPr.out.mono ?_
  rintro e w6 ⟨rfl,hM,p',hTS,rfl⟩
  have hM2 : Mod (fun k => k = w3.heap.size) W5 w6 := hM.weak (fun i q => by
   rcases q with q | ⟨_,q⟩
   ·exact q
   ·cases q)
  obtain ⟨q1,q2,q3⟩ := Hs.out
  have q4 := Hw3.out
  have hPV6 := hPV5.out.mod hM2 (by omega) (by omega) (by omega)
  have hB6 : Bel w w6 := Mod.bel_of hB5.out hM2 (fun i q => by omega)
  obtain ⟨m0,d0,t0,t1,t2,t3⟩ := hTS.tok
  obtain ⟨-,-,-,t7⟩ := hTS.tks p' hTS.pos
  have hpos2 := hTS.pos
  have hpl : p' ≤ R.l.length := by
   have e : (cxOf w3.heap.size W5.heap.size tb c9 R.l (s.size : Int)).T.length = R.l.length := by show (pairs R.l).length = _; unfold pairs; rw [List.length_map]
   omega
  rw [cx_tok _ _ _ _ _ _ _ hpl] at t7
  obtain ⟨v0,z0⟩ := hPV6.c0
  obtain ⟨v1,z1⟩ := hPV6.c1
  obtain ⟨x3,z3⟩ := hPV6.c3
  obtain ⟨x4,z4⟩ := hPV6.c4
  have e1 : w.heap.size ≠ V1.heap.size := by omega
  have e2 : w.heap.size ≠ V2.heap.size := by omega
  have e3 : V1.heap.size ≠ V2.heap.size := by omega
  have HC := Lib.hid (catch_pan w3.heap.size w.heap.size V1.heap.size V2.heap.size tb (p' * 4) m0 d0 (offOf R.l (s.size : Int) ((cxOf w3.heap.size W5.heap.size tb c9 R.l (s.size : Int)).at p')) [] w6 t0 t7 v0 v1 z0 z1 x3 x4 z3 z4 hPV6.f2 hPV6.f3 hPV6.f4 e1 e2 e3)
  have HK := Lib.hid (cells6 z0 z1 z3 z4 e1 e2 e3 (.slice none 0 0) (.slice none 0 0) (.int .i64 (offOf R.l (s.size : Int) ((cxOf w3.heap.size W5.heap.size tb c9 R.l (s.size : Int)).at p'))) (.int .i64 1))
  have HB6 := Lib.hid hB6
  clear z0 z1 z3 z4 t0 t7 hPV6 hB6 hM hM2 hTS q1 q2 q3 q4 e1 e2 e3
  go_wp2_with fail
  refine leaves_cons (f := 33) (args := #[.pointer (some ⟨w3.heap.size,0,none⟩),.pointer (some ⟨w.heap.size,0,none⟩),.pointer (some ⟨V1.heap.size,0,none⟩),.pointer (some ⟨V2.heap.size,0,none⟩)]) (by simp) (by simp [go_sem]) ?_
  refine HC.out.mono ?_
  rintro e u' w7 ⟨rfl,rfl,rfl⟩
  obtain ⟨m1,m2,m3,m4⟩ := HK.out
  refine ⟨_,parse_res _ w.heap.size V1.heap.size V2.heap.size none none 0 0 0 0 _ _ _ rfl rfl rfl m1 m2 m3 m4,?_,?_⟩
  ·rfl
  ·obtain ⟨q1,q2,q3⟩ := Hs.out
   exact (((HB6.out.setCell (Nat.le_refl _) _).setCell (Nat.le_refl _) _).setCell (by show _ ≤ V1.heap.size; omega) _).setCell (by show _ ≤ V2.heap.size; omega) _
 | ok fs r0 =>
  refine HPr.out.mono ?_
  rintro e w6 ⟨no,nn,nc,fo,m,fc,rfl,hnc,hfc,hArg,hM,hn1,hm1⟩
  have hM2 : Mod (fun k => k = w3.heap.size) W5 w6 := hM
  obtain ⟨q1,q2,q3⟩ := Hs.out
  have q4 := Hw3.out
  have hPV6 := hPV5.out.mod hM2 (by omega) (by omega) (by omega)
  have hB6 : Bel w w6 := Mod.bel_of hB5.out hM2 (fun i q => by omega)
  obtain ⟨v0,z0⟩ := hPV6.c0
  obtain ⟨v1,z1⟩ := hPV6.c1
  obtain ⟨x3,z3⟩ := hPV6.c3
  obtain ⟨x4,z4⟩ := hPV6.c4
  have hok : OkR (R.l.map Lex.core) := ⟨fun c hc => by
   obtain ⟨t,ht,rfl⟩ := List.mem_map.1 hc
   rw [(Lex.okT_core (t := tk (Lex.core t)) (u := t) rfl).1]
   exact (HTF.out.2 t ht).1,by rw [List.length_map]; have := HTF.out.1; omega⟩
  have hgd := rdG_good f [] _ fs r0 (fun f hf => by cases hf) hok HX.out
  obtain ⟨W7,hW7⟩ : ∃ W7,(w6.setCell ⟨w.heap.size,0,none⟩ (.slice no nn nc)).setCell ⟨w.heap.size,1,none⟩ (.slice fo m fc) = W7 := ⟨_,rfl⟩
  have hM7 : Mod (fun b => b = w.heap.size) w6 W7 := by
   rw [← hW7]
   exact Mod.setCell (F := fun b => b = w.heap.size) (Mod.setCell (F := fun b => b = w.heap.size) (Mod.refl _ w6) (p := ⟨w.heap.size,0,none⟩) (Or.inl rfl) _) (p := ⟨w.heap.size,1,none⟩) (Or.inl rfl) _
  have k0 : W7.cell? ⟨w.heap.size,0,none⟩ = some (.slice no nn nc) := by rw [← hW7]; exact otherC _ (sameC _ z0) (adO (by decide))
  have k1 : W7.cell? ⟨w.heap.size,1,none⟩ = some (.slice fo m fc) := by rw [← hW7]; exact sameC _ (otherC _ z1 (adO (by decide)))
  have k3 : W7.cell? ⟨V1.heap.size,0,none⟩ = some (.int .i64 x3) := hM7.cell z3 (fun q => by have : V1.heap.size = w.heap.size := q; omega)
  have k4 : W7.cell? ⟨V2.heap.size,0,none⟩ = some (.int .i64 x4) := hM7.cell z4 (fun q => by have : V2.heap.size = w.heap.size := q; omega)
  have g2 : ∀ j,W7.frozen? ⟨w.heap.size,j,none⟩ = false := fun j => by rw [← hW7]; exact fz_set (fz_set (hPV6.f2 j))
  have g3 : W7.frozen? ⟨V1.heap.size,0,none⟩ = false := by rw [← hW7]; exact fz_set (fz_set hPV6.f3)
  have g4 : W7.frozen? ⟨V2.heap.size,0,none⟩ = false := by rw [← hW7]; exact fz_set (fz_set hPV6.f4)
  have hA7 := hArg _ W7 hM7 (fun b hb => Or.inl hb)
  have hB7 : Bel w W7 := by rw [← hW7]; exact (hB6.setCell (Nat.le_refl _) _).setCell (Nat.le_refl _) _
  have hnn2 : sizeF fs = nn := by have := hA7.1.1; rw [flatF_len] at this; exact this
  have hsm := flatF_small fs 0 1000 (fun f hf => gFu_good (hgd f hf)) (by omega)
  have HCh := Lib.hid (check_any no fo nn nc m fc (flatF 0 fs) (funcF 0 fs) (by omega) (by omega) W7 (HM.out.on hB7) hA7.1 hA7.2 (fun x hx => by
   obtain ⟨i1,i2,i3⟩ := hsm x hx
   exact ⟨by omega,by omega,by omega⟩) (fun x hx => by
   obtain ⟨i,hi,rfl⟩ := List.mem_iff_getElem.1 hx
   have hi2 : i < fs.length := by rw [funcF_len] at hi; exact hi
   obtain ⟨z,hz,-⟩ := at_func fs [] [] i hi2
   obtain ⟨_,he⟩ := List.getElem?_eq_some_iff.1 hz
   rw [show (funcF 0 fs)[i] = _ from he]
   have := (hgd fs[i] (List.getElem_mem hi2)).2.2.2
   dsimp only
   omega))
  have f20 := hPV6.f2 0
  have f21 := hPV6.f2 1
  have HArg := Lib.hid hArg
  have HM7 := Lib.hid hM7
  have HB7 := Lib.hid hB7
  have Hn := Lib.hid (show nn ≤ nc ∧ m ≤ fc ∧ nn ≤ 1000 ∧ m ≤ 1000 from ⟨hnc,hfc,hn1,hm1⟩)
  have n1 : ¬ w.heap.size = V1.heap.size := by omega
  have n2 : ¬ w.heap.size = V2.heap.size := by omega
  have n3 : ¬ V1.heap.size = V2.heap.size := by omega
  have n4 : ¬ V1.heap.size = w.heap.size := by omega
  have n5 : ¬ V2.heap.size = w.heap.size := by omega
  have n6 : ¬ V2.heap.size = V1.heap.size := by omega
  have HPk : ∀ w',ParseOk R.l (s.size : Int) (.ok fs r0) w' = fun e => if chkE (flatF 0 fs) (funcF 0 fs) = 0 then ∃ no nn nc fo m fc,e = .returned (.tuple #[.agg #[.slice no nn nc,.slice fo m fc],.int .i64 0,.int .i64 0]) ∧ nn ≤ nc ∧ m ≤ fc ∧ NArg w' no nn (flatF 0 fs) ∧ FArg w' fo m (funcF 0 fs) ∧ nn ≤ 1000 ∧ m ≤ 1000
  else e = .returned (.tuple #[.agg #[.slice none 0 0,.slice none 0 0],.int .i64 0,.int .i64 (chkE (flatF 0 fs) (funcF 0 fs))]) := fun _ => rfl
  clear hArg hM7 hB7 hM2 hM hB6 hsm hA7 hPV6 hok q1 q2 q3 q4 HPr
  by_cases hc : chkE (flatF 0 fs) (funcF 0 fs) = 0
  ·rw [hc] at HCh
   go_wp2_with fail
   refine HCh.out.mono ?_
   rintro e w8 ⟨rfl,g⟩
   have k0 := g.cell' k0
   have k1 := g.cell' k1
   have k3 := g.cell' k3
   have k4 := g.cell' k4
   have lt2 := cell_lt' k0
   have g2 : ∀ j,w8.frozen? ⟨w.heap.size,j,none⟩ = false := fun j => (World.frozen?_of_block (a := ⟨w.heap.size,j,none⟩) (g.block w.heap.size (cell_lt' (p := ⟨w.heap.size,0,none⟩) ‹W7.cell? ⟨w.heap.size,0,none⟩ = _›))).trans (g2 j)
   have g3 : w8.frozen? ⟨V1.heap.size,0,none⟩ = false := (World.frozen?_of_block (a := ⟨V1.heap.size,0,none⟩) (g.block V1.heap.size (cell_lt' (p := ⟨V1.heap.size,0,none⟩) ‹W7.cell? ⟨V1.heap.size,0,none⟩ = _›))).trans g3
   have g4 : w8.frozen? ⟨V2.heap.size,0,none⟩ = false := (World.frozen?_of_block (a := ⟨V2.heap.size,0,none⟩) (g.block V2.heap.size (cell_lt' (p := ⟨V2.heap.size,0,none⟩) ‹W7.cell? ⟨V2.heap.size,0,none⟩ = _›))).trans g4
   have HG8 := Lib.hid g
   have HK := Lib.hid (cells6 k0 k1 k3 k4 n1 n2 n3 (.slice no nn nc) (.slice fo m fc) (.int .i64 0) (.int .i64 0))
   clear g lt2
   go_wp2_with fail
   refine leaves_cons (f := 33) (args := #[.pointer (some ⟨w3.heap.size,0,none⟩),.pointer (some ⟨w.heap.size,0,none⟩),.pointer (some ⟨V1.heap.size,0,none⟩),.pointer (some ⟨V2.heap.size,0,none⟩)]) (by simp) (by simp [go_sem]) ?_
   refine (catch_idl w3.heap.size w.heap.size V1.heap.size V2.heap.size _).mono ?_
   rintro e u' w9 ⟨rfl,rfl,rfl⟩
   obtain ⟨m1,m2,m3,m4⟩ := HK.out
   refine ⟨_,parse_res _ w.heap.size V1.heap.size V2.heap.size no fo nn nc m fc 0 0 _ rfl rfl rfl m1 m2 m3 m4,?_,?_⟩
   ·rw [HPk]
    dsimp only
    rw [if_pos hc]
    have hF := HArg.out (fun b => b = w.heap.size ∨ b = V1.heap.size ∨ b = V2.heap.size) _ ((HM7.out.weak (G := fun b => b = w.heap.size ∨ b = V1.heap.size ∨ b = V2.heap.size) (fun i q => Or.inl q)).trans (G := fun b => b = w.heap.size ∨ b = V1.heap.size ∨ b = V2.heap.size) (Mod.setCell (Mod.setCell (Mod.setCell (Mod.setCell (Mod.of_bel (F := fun b => b = w.heap.size ∨ b = V1.heap.size ∨ b = V2.heap.size) HG8.out) (p := ⟨w.heap.size,0,none⟩) (Or.inl (Or.inl rfl)) (.slice no nn nc)) (p := ⟨w.heap.size,1,none⟩) (Or.inl (Or.inl rfl)) (.slice fo m fc)) (p := ⟨V1.heap.size,0,none⟩) (Or.inl (Or.inr (Or.inl rfl))) (.int .i64 0)) (p := ⟨V2.heap.size,0,none⟩) (Or.inl (Or.inr (Or.inr rfl))) (.int .i64 0)) (fun i q => Or.inl q)) (fun b hb => hb)
    exact ⟨no,nn,nc,fo,m,fc,rfl,Hn.out.1,Hn.out.2.1,hF.1,hF.2,Hn.out.2.2⟩
   ·obtain ⟨q1,q2,q3⟩ := Hs.out
    exact ((((Bel.trans HB7.out HG8.out).setCell (Nat.le_refl _) _).setCell (Nat.le_refl _) _).setCell (by show _ ≤ V1.heap.size; omega) _).setCell (by show _ ≤ V2.heap.size; omega) _
  ·have hne : (chkE (flatF 0 fs) (funcF 0 fs) != 0) = true := by simpa using hc
   obtain ⟨ce,hce⟩ : ∃ ce,chkE (flatF 0 fs) (funcF 0 fs) = ce := ⟨_,rfl⟩
   rw [hce] at hne hc HCh
   have Hce := Lib.hid hce
   clear hce
   go_wp2_with fail
   refine HCh.out.mono ?_
   rintro e w8 ⟨rfl,g⟩
   have k0 := g.cell' k0
   have k1 := g.cell' k1
   have k3 := g.cell' k3
   have k4 := g.cell' k4
   have g2 : ∀ j,w8.frozen? ⟨w.heap.size,j,none⟩ = false := fun j => (World.frozen?_of_block (a := ⟨w.heap.size,j,none⟩) (g.block w.heap.size (cell_lt' (p := ⟨w.heap.size,0,none⟩) ‹W7.cell? ⟨w.heap.size,0,none⟩ = _›))).trans (g2 j)
   have g3 : w8.frozen? ⟨V1.heap.size,0,none⟩ = false := (World.frozen?_of_block (a := ⟨V1.heap.size,0,none⟩) (g.block V1.heap.size (cell_lt' (p := ⟨V1.heap.size,0,none⟩) ‹W7.cell? ⟨V1.heap.size,0,none⟩ = _›))).trans g3
   have g4 : w8.frozen? ⟨V2.heap.size,0,none⟩ = false := (World.frozen?_of_block (a := ⟨V2.heap.size,0,none⟩) (g.block V2.heap.size (cell_lt' (p := ⟨V2.heap.size,0,none⟩) ‹W7.cell? ⟨V2.heap.size,0,none⟩ = _›))).trans g4
   have HG8 := Lib.hid g
   have HK := Lib.hid (cells6 k0 k1 k3 k4 n1 n2 n3 (.slice none 0 0) (.slice none 0 0) (.int .i64 0) (.int .i64 ce))
   clear g
   go_wp2_with fail
   refine leaves_cons (f := 33) (args := #[.pointer (some ⟨w3.heap.size,0,none⟩),.pointer (some ⟨w.heap.size,0,none⟩),.pointer (some ⟨V1.heap.size,0,none⟩),.pointer (some ⟨V2.heap.size,0,none⟩)]) (by simp) (by simp [go_sem]) ?_
   refine (catch_idl w3.heap.size w.heap.size V1.heap.size V2.heap.size _).mono ?_
   rintro e u' w9 ⟨rfl,rfl,rfl⟩
   obtain ⟨m1,m2,m3,m4⟩ := HK.out
   refine ⟨_,parse_res _ w.heap.size V1.heap.size V2.heap.size none none 0 0 0 0 0 ce _ rfl rfl rfl m1 m2 m3 m4,?_,?_⟩
   ·rw [HPk]
    dsimp only
    rw [Hce.out,if_neg hc]
   ·obtain ⟨q1,q2,q3⟩ := Hs.out
    exact ((((Bel.trans HB7.out HG8.out).setCell (Nat.le_refl _) _).setCell (Nat.le_refl _) _).setCell (by show _ ≤ V1.heap.size; omega) _).setCell (by show _ ≤ V2.heap.size; omega) _
def tokF : Nat → Nat → Nat → Txt → Lex.TR
 | 0,_,_,_ => ⟨[],0,0⟩
 | f + 1,m,p,l => if l.isEmpty then ⟨[],0,0⟩ else if m == 1000 then ⟨[],p,3⟩ else if (Lex.rdT l).e == 0 then Lex.addT [⟨(Lex.rdT l).k,(Lex.rdT l).s,(Lex.rdT l).i,p⟩] (tokF f (m + 1) (p + Lex.nxt l) (l.drop (Lex.nxt l))) else ⟨[],p + (Lex.rdT l).n,(Lex.rdT l).e⟩
theorem tokF_eq : ∀ (f m p : Nat) (l : Txt),l.length ≤ f → tokF f m p l = Lex.toks m p l
 | 0,m,p,l,h => by
  obtain rfl := List.length_eq_zero_iff.1 (Nat.le_zero.1 h)
  rw [Lex.toks_nil]; rfl
 | f + 1,m,p,l,h => by
  unfold tokF
  by_cases hl : l = []
  ·subst hl; rw [Lex.toks_nil]; rfl
  rw [if_neg (by simpa using hl)]
  by_cases hm : m = 1000
  ·subst hm; rw [Lex.toks_full p hl]; rfl
  rw [if_neg (by simpa using hm)]
  by_cases he : (Lex.rdT l).e = 0
  ·have hn := Lex.nxt_le he
   rw [if_pos (by simpa using he),Lex.toks_step hl hm he,tokF_eq f _ _ _ (by rw [List.length_drop]; omega)]
  ·rw [if_neg (by simpa using he),Lex.toks_bad hl hm he]
def toksOf (s : Txt) : Lex.TR := if 4000 < s.length then ⟨[],0,3⟩ else tokF s.length 0 (Lex.skipN false s) (s.drop (Lex.skipN false s))
theorem toks_of (s : Txt) : Lex.tokens s = toksOf s := by
 unfold Lex.tokens toksOf
 split
 ·rfl
 ·rw [tokF_eq _ _ _ _ (by rw [List.length_drop]; omega)]
def eT1 : Txt := [102,117,110,99,32,109,97,105,110,40,101,41,32,123,32,114,101,116,117,114,110,32,101,43,49,42,50,59,32,125]
def eT2 : Txt := [102,117,110,99,32,109,97,105,110,40,101,41,32,123,32,114,101,116,117,114,110,32,49,32,60,32,50,32,60,32,51,59,32,125]
def eT3 : Txt := [102,117,110,99,32,109,97,105,110,40,101,41,32,123,32,114,101,116,117,114,110,32,40,101,43,49,41,42,50,59,32,125]
def eT4 : Txt := [102,117,110,99,32,109,97,105,110,40,101,41,32,123,32,114,101,116,117,114,110,32,123,34,98,34,58,32,49,44,32,34,97,34,58,32,50,125,59,32,125]
def eP1 : Txt := [102,117,110,99,32,109,97,105,110,40,101,41,32,123,10,9,114,101,116,117,114,110,32,101,32,43,32,49,32,42,32,50,59,10,125,10]
def eP3 : Txt := [102,117,110,99,32,109,97,105,110,40,101,41,32,123,10,9,114,101,116,117,114,110,32,40,101,32,43,32,49,41,32,42,32,50,59,10,125,10]
def exOf (e : T) : List Fu := [⟨[109,97,105,110],[[101]],.node 19 [] 0 [] (.cons (.node 17 [] 0 [] (.cons e .nil)) .nil)⟩]
def ex1 : List Fu := exOf (bin [43] (leaf 5 [101] 0) (bin [42] (leaf 3 [] 1) (leaf 3 [] 2)))
def ex3 : List Fu := exOf (bin [42] (bin [43] (leaf 5 [101] 0) (leaf 3 [] 1)) (leaf 3 [] 2))
theorem ex1_tok : (Lex.tokens eT1).e = 0 ∧ (Lex.tokens eT1).l.length = 14 ∧ rdG 281 [] ((Lex.tokens eT1).l.map Lex.core) = .ok ex1 [] := by
 rw [toks_of]
 exact ⟨rfl,rfl,rfl⟩
theorem ex3_tok : (Lex.tokens eT3).e = 0 ∧ (Lex.tokens eT3).l.length = 16 ∧ rdG 321 [] ((Lex.tokens eT3).l.map Lex.core) = .ok ex3 [] := by
 rw [toks_of]
 exact ⟨rfl,rfl,rfl⟩
theorem ex2_tok : (Lex.tokens eT2).e = 0 ∧ (Lex.tokens eT2).l.length = 14 ∧ ∃ r,rdG 281 [] ((Lex.tokens eT2).l.map Lex.core) = .bad r ∧ r.length = 4 ∧ ((Lex.tokens eT2).l[10]?).map (fun t => t.a) = some 28 := by
 rw [toks_of]
 exact ⟨rfl,rfl,_,rfl,rfl,rfl⟩
theorem ex4_tok : (Lex.tokens eT4).e = 0 ∧ (Lex.tokens eT4).l.length = 18 ∧ ∃ r,rdG 361 [] ((Lex.tokens eT4).l.map Lex.core) = .bad r ∧ r.length = 6 ∧ ((Lex.tokens eT4).l[12]?).map (fun t => t.a) = some 31 := by
 rw [toks_of]
 exact ⟨rfl,rfl,_,rfl,rfl,rfl⟩
theorem ex1_txt : txt (itW ex1) = eP1 := rfl
theorem ex3_txt : txt (itW ex3) = eP3 := rfl
theorem ex1_pr : (Lex.tokens (txt (itW ex1))).e = 0 := by
 rw [ex1_txt,toks_of]
 rfl
theorem ex3_pr : (Lex.tokens (txt (itW ex3))).e = 0 := by
 rw [ex3_txt,toks_of]
 rfl
theorem ex1_chk : chkE (flatF 0 ex1) (funcF 0 ex1) = 0 := rfl
theorem ex3_chk : chkE (flatF 0 ex3) (funcF 0 ex3) = 0 := rfl
theorem ex1_len : (flatF 0 ex1).length = 7 ∧ (funcF 0 ex1).length = 1 := ⟨rfl,rfl⟩
theorem ex3_len : (flatF 0 ex3).length = 7 ∧ (funcF 0 ex3).length = 1 := ⟨rfl,rfl⟩
theorem ex1_n3 : (flatF 0 ex1)[3]? = some ⟨9,[42],0,[],[1,2]⟩ := rfl
theorem ex1_n4 : (flatF 0 ex1)[4]? = some ⟨9,[43],0,[],[0,3]⟩ := rfl
theorem ex1_f0 : (funcF 0 ex1)[0]? = some ⟨[109,97,105,110],[[101]],6⟩ := rfl
theorem ex3_n2 : (flatF 0 ex3)[2]? = some ⟨9,[43],0,[],[0,1]⟩ := rfl
theorem ex1_n2 : (flatF 0 ex1)[2]? = some ⟨3,[],2,[],[]⟩ := rfl
theorem ex13_ne : flatF 0 ex1 ≠ flatF 0 ex3 := fun e => by
 have h := ex1_n2
 rw [e,ex3_n2] at h
 cases h
theorem ex1_nest : nestL 0 (fun _ => 0) 0 (flatF 0 ex1) = 5 := rfl
theorem ex1_pT : (Lex.tokens (txt (itW ex1))).e = 0 ∧ txt (itW ex1) = eP1 := ⟨ex1_pr,ex1_txt⟩

def PAt (W : World) (no : Option Addr) (nn : Nat) (fo : Option Addr) (m : Nat) (fs : List Fu) : Prop := NArg W no nn (flatF 0 fs) ∧ FArg W fo m (funcF 0 fs)
theorem PAt.on {W W' : World} {no fo : Option Addr} {nn m : Nat} {fs : List Fu} (h : PAt W no nn fo m fs) (b : Bel W W') : PAt W' no nn fo m fs := ⟨h.1.on b,h.2.on b⟩
theorem parse_prog (s : Txt) (fs : List Fu) (n m N f : Nat) (r : List Ck) (he : (Lex.tokens s).e = 0) (hN : (Lex.tokens s).l.length = N) (hf : 20 * N + 1 ≤ f) (hX : rdG f [] ((Lex.tokens s).l.map Lex.core) = .ok fs r) (hc : chkE (flatF 0 fs) (funcF 0 fs) = 0) (hl : (flatF 0 fs).length = n) (hm2 : (funcF 0 fs).length = m) (w : World) (hm : Lex.ML w) :
  Calls Tryz.prog 8 #[.string ⟨s.toArray⟩] w fun e w' => (∃ no nc fo fc,e = .returned (.tuple #[.agg #[.slice no n nc,.slice fo m fc],.int .i64 0,.int .i64 0]) ∧ PAt w' no n fo m fs) ∧ Bel w w' := by
 have h := parse_rd ⟨s.toArray⟩ w hm (by rw [tlB]; exact he) f (by rw [tlB,hN]; exact hf)
 rw [tlB,hX] at h
 refine h.mono fun e w' k => ?_
 obtain ⟨k1,k2⟩ := k
 refine ⟨?_,k2⟩
 unfold ParseOk at k1
 dsimp only at k1
 rw [if_pos hc] at k1
 obtain ⟨no,nn,nc,fo,m',fc,rfl,-,-,hN2,hF2,-,-⟩ := k1
 obtain rfl : n = nn := by have := hN2.1; omega
 obtain rfl : m = m' := by have := hF2.1; omega
 exact ⟨no,nc,fo,fc,rfl,hN2,hF2⟩
theorem off_of {l : List Lex.Tk} {z a : Int} {r : List Ck} {i : Nat} (hi : l.length - r.length = i) (h : (l[i]?).map (fun t => t.a) = some a) : offOf l z r = a := by
 unfold offOf
 rw [hi]
 cases e : l[i]? with
 | none => rw [e] at h; cases h
 | some t => rw [e] at h; simpa using h
theorem parse_no (s : Txt) (N f i R : Nat) (a : Int) (he : (Lex.tokens s).e = 0) (hN : (Lex.tokens s).l.length = N) (hf : 20 * N + 1 ≤ f) (hX : ∃ r,rdG f [] ((Lex.tokens s).l.map Lex.core) = .bad r ∧ r.length = R ∧ ((Lex.tokens s).l[i]?).map (fun t => t.a) = some a) (hi : N - R = i) (w : World) (hm : Lex.ML w) :
  Calls Tryz.prog 8 #[.string ⟨s.toArray⟩] w fun e w' => e = .returned (.tuple #[.agg #[.slice none 0 0,.slice none 0 0],.int .i64 a,.int .i64 1]) ∧ Bel w w' := by
 have h := parse_rd ⟨s.toArray⟩ w hm (by rw [tlB]; exact he) f (by rw [tlB,hN]; exact hf)
 obtain ⟨r,h3,h4,h5⟩ := hX
 rw [tlB,h3] at h
 refine h.mono fun e w' k => ?_
 obtain ⟨k1,k2⟩ := k
 refine ⟨?_,k2⟩
 unfold ParseOk at k1
 dsimp only at k1
 rw [off_of (by rw [hN,h4]; exact hi) h5] at k1
 exact k1
theorem ex_wf {fs : List Fu} (hc : chkE (flatF 0 fs) (funcF 0 fs) = 0) (hg : ∀ f ∈ fs,goodFu f) : WfN (flatF 0 fs) := fun x hx => by
 have hl := (chk_ok hc).1
 rw [flatF_len] at hl
 obtain ⟨i1,i2,i3⟩ := flatF_small fs 0 1000 hg (by omega) x hx
 exact ⟨by omega,by omega,by omega⟩
theorem chk_good {L : List Nd} {F : List Fw} (hc : chkE L F = 0) : ∃ fs,L = flatF 0 fs ∧ F = funcF 0 fs ∧ ∀ f ∈ fs,goodFu f := proper_good (chk_ok hc).2.2
theorem fu_ext {a b : Fu} (h1 : a.name = b.name) (h2 : a.params = b.params) (h3 : a.body = b.body) : a = b := by
 cases a; cases b; simp_all
theorem prog_inj : ∀ (fs gs : List Fu) (b : Nat),flatF b fs = flatF b gs → funcF b fs = funcF b gs → fs = gs
 | [],[],_,_,_ => rfl
 | [],g :: gs,b,_,h => by rw [funcF,funcF] at h; cases h
 | f :: fs,[],b,_,h => by rw [funcF,funcF] at h; cases h
 | f :: fs,g :: gs,b,h1,h2 => by
  rw [funcF,funcF] at h2
  simp only [List.cons.injEq,Fw.mk.injEq] at h2
  obtain ⟨⟨a1,a2,a3⟩,a4⟩ := h2
  have p1 := size_pos f.body
  have p2 := size_pos g.body
  have hs : size f.body = size g.body := by omega
  rw [flatF,flatF] at h1
  obtain ⟨c1,c2⟩ := List.append_inj h1 (by rw [flat_len,flat_len,hs])
  have ih := prog_inj fs gs (b + size f.body) (by rw [c2,hs]) (by rw [a4,hs])
  rw [ih,fu_ext a1 a2 (flat_inj c1)]
theorem prog_good {fs : List Fu} (hc : chkE (flatF 0 fs) (funcF 0 fs) = 0) : ∀ f ∈ fs,goodFu f := by
 obtain ⟨gs,h1,h2,h3⟩ := chk_good hc
 rw [prog_inj fs gs 0 h1 h2]
 exact h3
theorem print_prog (fs : List Fu) (P : Txt) (hc : chkE (flatF 0 fs) (funcF 0 fs) = 0) (hp : (Lex.tokens (txt (itW fs))).e = 0 ∧ txt (itW fs) = P) (w : World) (hm : Lex.ML w) (no fo : Option Addr) (n m nc fc : Nat) (h : PAt w no n fo m fs) : Calls Tryz.prog 14 #[.agg #[.slice no n nc,.slice fo m fc]] w fun e w' => e = .returned (.tuple #[.string ⟨P.toArray⟩,.int .i64 0]) ∧ Bel w w' := by
 have hg := prog_good hc
 have := print_ok no fo n nc m fc fs hg w hm h.1 h.2 (ex_wf hc hg) hc
 have e1 : prE fs = 0 := hp.1
 have e2 : prT fs = P := by unfold prT; rw [if_pos e1,hp.2]
 rw [e1,e2] at this
 exact this
theorem ex_wfF {fs : List Fu} (hc : chkE (flatF 0 fs) (funcF 0 fs) = 0) : ∀ x ∈ funcF 0 fs,x.params.length ≤ 8 := fun x hx => by
 unfold chkE at hc
 split at hc
 ·cases hc
 split at hc
 ·cases hc
 split at hc
 ·cases hc
 ·rename_i h
  rcases Nat.lt_or_ge 8 x.params.length with q | q
  ·refine absurd (Or.inl ?_) h
   rw [List.any_eq_true]
   exact ⟨_,hx,by simpa using q⟩
  ·exact q
theorem prog_num {W : World} {no fo : Option Addr} {n m : Nat} {fs : List Fu} (hc : chkE (flatF 0 fs) (funcF 0 fs) = 0) (h : PAt W no n fo m fs) : n ≤ 600 ∧ m ≤ 16 := by
 have h1 := (chk_ok hc)
 have h2 := h.1.1
 have h3 := h.2.1
 omega
theorem check_prog (fs : List Fu) (hc : chkE (flatF 0 fs) (funcF 0 fs) = 0) (w : World) (hm : Lex.ML w) (no fo : Option Addr) (n m nc fc : Nat) (h : PAt w no n fo m fs) : Calls Tryz.prog 12 #[.agg #[.slice no n nc,.slice fo m fc]] w fun e w' => e = .returned (.int .i64 0) ∧ Bel w w' := by
 have hn := prog_num hc h
 have := check_any no fo n nc m fc (flatF 0 fs) (funcF 0 fs) (by omega) (by omega) w hm h.1 h.2 (ex_wf hc (prog_good hc)) (fun x hx => by have := ex_wfF hc x hx; omega)
 rw [hc] at this
 exact this
theorem depth_prog (fs : List Fu) (D : Int) (hc : chkE (flatF 0 fs) (funcF 0 fs) = 0) (hd : nestL 0 (fun _ => 0) 0 (flatF 0 fs) = D) (w : World) (hm : Lex.ML w) (no fo : Option Addr) (n m nc fc : Nat) (h : PAt w no n fo m fs) : Calls Tryz.prog 39 #[.agg #[.slice no n nc,.slice fo m fc]] w fun e w' => e = .returned (.int .i64 D) ∧ Bel w w' := by
 have hn := prog_num hc h
 have := depth_any no fo n nc m fc (flatF 0 fs) (funcF 0 fs) (by omega) (by omega) w hm h.1 h.2 (ex_wf hc (prog_good hc)) (fun x hx => by have := ex_wfF hc x hx; omega)
 rw [show depthE (flatF 0 fs) (funcF 0 fs) = D by unfold depthE; rw [if_pos hc,hd]] at this
 exact this
theorem same_prog (f1 f2 : List Fu) (b : Bool) (hc : chkE (flatF 0 f1) (funcF 0 f1) = 0) (hc2 : chkE (flatF 0 f2) (funcF 0 f2) = 0) (hb : (decide (flatF 0 f1 = flatF 0 f2) && decide (funcF 0 f1 = funcF 0 f2)) = b) (w : World) (no fo no2 fo2 : Option Addr) (n m nc fc n2 m2 nc2 fc2 : Nat) (h : PAt w no n fo m f1) (h2 : PAt w no2 n2 fo2 m2 f2) : Calls Tryz.prog 41 #[.agg #[.slice no n nc,.slice fo m fc],.agg #[.slice no2 n2 nc2,.slice fo2 m2 fc2]] w fun e w' => e = .returned (.bool b) ∧ Bel w w' := by
 have hn := prog_num hc h
 have hn2 := prog_num hc2 h2
 have := same_any no fo no2 fo2 n nc m fc n2 nc2 m2 fc2 (flatF 0 f1) (flatF 0 f2) (funcF 0 f1) (funcF 0 f2) (by omega) (by omega) (by omega) (by omega) w h.1 h2.1 h.2 h2.2 (ex_wf hc (prog_good hc)) (ex_wf hc2 (prog_good hc2)) (fun x hx => by have := ex_wfF hc x hx; omega) (fun x hx => by have := ex_wfF hc2 x hx; omega)
 rw [hb] at this
 exact this

theorem nd_at {W : World} {no : Option Addr} {n : Nat} {L : List Nd} {i : Nat} {k : Int} {s : Txt} {z : Int} {keys : List Txt} {kids : List Int} (h : NArg W no n L) (hi : L[i]? = some ⟨k,s,z,keys,kids⟩) : ∃ b off jo jc,no = some ⟨b,off,none⟩ ∧ W.cell? ⟨b,off + i * 5 + 1,none⟩ = some (.string ⟨s.toArray⟩) ∧ W.cell? ⟨b,off + i * 5 + 4,none⟩ = some (.slice jo kids.length jc) ∧ ZArg W jo kids.length kids := by
 obtain ⟨hl,he⟩ := List.getElem?_eq_some_iff.1 hi
 obtain ⟨b,off,e,hcs⟩ := h.2 (by have := h.1; omega)
 obtain ⟨v,hv,hc⟩ := hcs i hl
 rw [he] at hv
 have c1 := hc 1 _ rfl
 have c4 := hc 4 _ rfl
 have hz := hv.kids
 rw [hv.s] at c1
 have hn : kids.length = v.jn := hz.1
 rw [← hn] at c4 hz
 exact ⟨b,off,v.jo,v.jc,e,c1,c4,hz⟩
theorem awake_any (w : World) (hm : Lex.ML w) : Calls Tryz.prog 11 #[] w fun e w' => e = .returned (.bool true) ∧ Bel w w' := by
 have hpT := ex1_pT
 have hpT3 : (Lex.tokens (txt (itW ex3))).e = 0 ∧ txt (itW ex3) = eP3 := ⟨ex3_pr,ex3_txt⟩
 have P1 := Lib.hid (fun W => parse_prog eT1 ex1 7 1 14 281 [] ex1_tok.1 ex1_tok.2.1 (by decide) ex1_tok.2.2 ex1_chk ex1_len.1 ex1_len.2 W)
 have P3 := Lib.hid (fun W => parse_prog eT3 ex3 7 1 16 321 [] ex3_tok.1 ex3_tok.2.1 (by decide) ex3_tok.2.2 ex3_chk ex3_len.1 ex3_len.2 W)
 have P2 := Lib.hid (fun W => parse_no eT2 14 281 10 4 28 ex2_tok.1 ex2_tok.2.1 (by decide) ex2_tok.2.2 (by decide) W)
 have P4 := Lib.hid (fun W => parse_no eT4 18 361 12 6 31 ex4_tok.1 ex4_tok.2.1 (by decide) ex4_tok.2.2 (by decide) W)
 have Q1 := Lib.hid (fun W => print_prog ex1 eP1 ex1_chk hpT W)
 have Q3 := Lib.hid (fun W => print_prog ex3 eP3 ex3_chk hpT3 W)
 have C1 := Lib.hid (fun W => check_prog ex1 ex1_chk W)
 have D1 := Lib.hid (fun W => depth_prog ex1 5 ex1_chk ex1_nest W)
 have S13 := Lib.hid (fun W => same_prog ex1 ex3 false ex1_chk ex3_chk (by rw [decide_eq_false ex13_ne,Bool.false_and]) W)
 have S11 := Lib.hid (fun W => same_prog ex1 ex1 true ex1_chk ex1_chk (by simp) W)
 have F1 := Lib.hid (fun (W : World) (no fo : Option Addr) (nc fc : Nat) (h : PAt W no 7 fo 1 ex1) => show Calls Tryz.prog 40 #[.agg #[.slice no 7 nc,.slice fo 1 fc],.string ⟨#[109,97,105,110]⟩] W fun e w' => e = .returned (.int .i64 0) ∧ Bel W w' from find_any no fo 7 nc 1 fc (funcF 0 ex1) [109,97,105,110] (by decide) W h.2)
 have F2 := Lib.hid (fun (W : World) (no fo : Option Addr) (nc fc : Nat) (h : PAt W no 7 fo 1 ex1) => show Calls Tryz.prog 40 #[.agg #[.slice no 7 nc,.slice fo 1 fc],.string ⟨#[120]⟩] W fun e w' => e = .returned (.int .i64 (-1)) ∧ Bel W w' from find_any no fo 7 nc 1 fc (funcF 0 ex1) [120] (by decide) W h.2)
 have n3 := Lib.hid ex1_n3
 have n4 := Lib.hid ex1_n4
 have g0 := Lib.hid ex1_f0
 have HM := Lib.hid hm
 clear hpT hpT3 hm
 generalize ex1 = x1 at *
 generalize ex3 = x3 at *
 go_enter Tryz.func11,Tryz.ntmps11
 go_wp2_with fail
 refine (P1.out _ HM.out).mono ?_
 rintro e w1 ⟨⟨no,nc,fo,fc,rfl,hP⟩,g1⟩
 obtain ⟨b,off,-,-,rfl,c31,-,-⟩ := nd_at hP.1 n3.out
 obtain ⟨b',off',jo,jc,e4,c41,c44,hz⟩ := nd_at hP.1 n4.out
 simp only [Option.some.injEq,Addr.mk.injEq,and_true] at e4
 obtain ⟨rfl,rfl⟩ := e4
 obtain ⟨bj,oj,rfl,hk⟩ := za_addr hz (by decide)
 have k0 := hk 0 (by decide)
 have k1 := hk 1 (by decide)
 obtain ⟨bf,of,rfl,hfs⟩ := hP.2.2 (by decide)
 obtain ⟨hl0,he0⟩ := List.getElem?_eq_some_iff.1 g0.out
 obtain ⟨v0,hv0,hc0⟩ := hfs 0 hl0
 have f2 := hc0 2 _ rfl
 rw [hv0.j,he0] at f2
 have B1 := Bel.alloc (Bel.refl w1) (.cells #[.slice (some ⟨b,off,none⟩) 7 nc,.slice (some ⟨bf,of,none⟩) 1 fc] 25)
 have f2 := B1.cell' (show w1.cell? ⟨bf,of + 2,none⟩ = some (.int .i64 6) by simpa using f2)
 have c31 := B1.cell' (show w1.cell? ⟨b,off + 15 + 1,none⟩ = some (.string ⟨#[42]⟩) from c31)
 have c41 := B1.cell' (show w1.cell? ⟨b,off + 20 + 1,none⟩ = some (.string ⟨#[43]⟩) from c41)
 have c44 := B1.cell' (show w1.cell? ⟨b,off + 20 + 4,none⟩ = some (.slice (some ⟨bj,oj,none⟩) 2 jc) from c44)
 have k0 := B1.cell' (show w1.cell? ⟨bj,oj,none⟩ = some (.int .i64 0) from k0)
 have k1 := B1.cell' (show w1.cell? ⟨bj,oj + 1,none⟩ = some (.int .i64 3) from k1)
 obtain ⟨V1,hV1⟩ : ∃ V1,w1.alloc (.cells #[.slice (some ⟨b,off,none⟩) 7 nc,.slice (some ⟨bf,of,none⟩) 1 fc] 25) = V1 := ⟨_,rfl⟩
 have G1 := Lib.hid (show Bel w V1 by rw [← hV1]; exact Bel.trans g1 B1)
 have HP1 := Lib.hid (show PAt V1 _ _ _ _ _ by rw [← hV1]; exact hP.on B1)
 have b0 : V1.cell? ⟨w1.heap.size,0,none⟩ = some (.slice (some ⟨b,off,none⟩) 7 nc) := by rw [← hV1]; exact World.cell?_alloc_new ..
 have b1 : V1.cell? ⟨w1.heap.size,1,none⟩ = some (.slice (some ⟨bf,of,none⟩) 1 fc) := by rw [← hV1]; exact World.cell?_alloc_new ..
 have HV1 := Lib.hid hV1
 clear hP g1 hz hk hfs hv0 hc0 B1 hV1
 go_wp2_with fail
 rw [HV1.out]
 refine (Q1.out _ (HM.out.on G1.out) _ _ _ _ _ _ HP1.out).mono ?_
 rintro e w2 ⟨rfl,g⟩
 have b0 := g.cell' b0
 have b1 := g.cell' b1
 have G2 := Lib.hid (Bel.trans G1.out g)
 have HP2 := Lib.hid (HP1.out.on g)
 clear g f2 c31 c41 c44 k0 k1
 go_wp2_with fail
 refine (P2.out _ (HM.out.on G2.out)).mono ?_
 rintro e w3 ⟨rfl,g⟩
 have b0 := g.cell' b0
 have b1 := g.cell' b1
 have B3 := Bel.alloc (Bel.refl w3) (.cells #[.slice none 0 0,.slice none 0 0] 25)
 obtain ⟨V3,hV3⟩ : ∃ V3,w3.alloc (.cells #[.slice none 0 0,.slice none 0 0] 25) = V3 := ⟨_,rfl⟩
 have B3 : Bel w3 V3 := by rw [← hV3]; exact B3
 have b0 := B3.cell' b0
 have b1 := B3.cell' b1
 have G3 := Lib.hid (Bel.trans G2.out (Bel.trans g B3))
 have HP3 := Lib.hid ((HP2.out.on g).on B3)
 have HV3 := Lib.hid hV3
 clear g B3 hV3
 rw [show eP1 = [102,117,110,99,32,109,97,105,110,40,101,41,32,123,10,9,114,101,116,117,114,110,32,101,32,43,32,49,32,42,32,50,59,10,125,10] from rfl]
 go_upto_region 6 with (fail)
 rw [HV3.out]
 go_wp2_with fail
 refine (C1.out _ (HM.out.on G3.out) _ _ _ _ _ _ HP3.out).mono ?_
 rintro e w4 ⟨rfl,g⟩
 have b0 := g.cell' b0
 have b1 := g.cell' b1
 have G4 := Lib.hid (Bel.trans G3.out g)
 have HP4 := Lib.hid (HP3.out.on g)
 clear g
 go_wp2_with fail
 refine (D1.out _ (HM.out.on G4.out) _ _ _ _ _ _ HP4.out).mono ?_
 rintro e w5 ⟨rfl,g⟩
 have b0 := g.cell' b0
 have b1 := g.cell' b1
 have G5 := Lib.hid (Bel.trans G4.out g)
 have HP5 := Lib.hid (HP4.out.on g)
 clear g
 go_wp2_with fail
 refine (F1.out _ _ _ _ _ HP5.out).mono ?_
 rintro e w6 ⟨rfl,g⟩
 have b0 := g.cell' b0
 have b1 := g.cell' b1
 have G6 := Lib.hid (Bel.trans G5.out g)
 have HP6 := Lib.hid (HP5.out.on g)
 clear g
 go_wp2_with fail
 refine (F2.out _ _ _ _ _ HP6.out).mono ?_
 rintro e w7 ⟨rfl,g⟩
 have b0 := g.cell' b0
 have b1 := g.cell' b1
 have G7 := Lib.hid (Bel.trans G6.out g)
 have HP7 := Lib.hid (HP6.out.on g)
 clear g
 go_wp2_with fail
 refine (P3.out _ (HM.out.on G7.out)).mono ?_
 rintro e w8 ⟨⟨no3,nc3,fo3,fc3,rfl,hP⟩,g⟩
 have b0 := g.cell' b0
 have b1 := g.cell' b1
 have B8 := Bel.alloc (Bel.refl w8) (.cells #[.slice no3 7 nc3,.slice fo3 1 fc3] 25)
 obtain ⟨V8,hV8⟩ : ∃ V8,w8.alloc (.cells #[.slice no3 7 nc3,.slice fo3 1 fc3] 25) = V8 := ⟨_,rfl⟩
 have B8 : Bel w8 V8 := by rw [← hV8]; exact B8
 have b0 := B8.cell' b0
 have b1 := B8.cell' b1
 have d0 : V8.cell? ⟨w8.heap.size,0,none⟩ = some (.slice no3 7 nc3) := by rw [← hV8]; exact World.cell?_alloc_new ..
 have d1 : V8.cell? ⟨w8.heap.size,1,none⟩ = some (.slice fo3 1 fc3) := by rw [← hV8]; exact World.cell?_alloc_new ..
 have G8 := Lib.hid (Bel.trans G7.out (Bel.trans g B8))
 have HP8 := Lib.hid ((HP7.out.on g).on B8)
 have HR8 := Lib.hid (hP.on B8)
 have HV8 := Lib.hid hV8
 clear g B8 hV8 hP
 go_wp2_with fail
 rw [HV8.out]
 refine (Q3.out _ (HM.out.on G8.out) _ _ _ _ _ _ HR8.out).mono ?_
 rintro e w9 ⟨rfl,g⟩
 have b0 := g.cell' b0
 have b1 := g.cell' b1
 have d0 := g.cell' d0
 have d1 := g.cell' d1
 have G9 := Lib.hid (Bel.trans G8.out g)
 have HP9 := Lib.hid (HP8.out.on g)
 have HR9 := Lib.hid (HR8.out.on g)
 clear g
 go_wp2_with fail
 refine (P4.out _ (HM.out.on G9.out)).mono ?_
 rintro e wa ⟨rfl,g⟩
 have b0 := g.cell' b0
 have b1 := g.cell' b1
 have d0 := g.cell' d0
 have d1 := g.cell' d1
 have Ba := Bel.alloc (Bel.refl wa) (.cells #[.slice none 0 0,.slice none 0 0] 25)
 obtain ⟨Va,hVa⟩ : ∃ Va,wa.alloc (.cells #[.slice none 0 0,.slice none 0 0] 25) = Va := ⟨_,rfl⟩
 have Ba : Bel wa Va := by rw [← hVa]; exact Ba
 have b0 := Ba.cell' b0
 have b1 := Ba.cell' b1
 have d0 := Ba.cell' d0
 have d1 := Ba.cell' d1
 have Ga := Lib.hid (Bel.trans G9.out (Bel.trans g Ba))
 have HPa := Lib.hid ((HP9.out.on g).on Ba)
 have HRa := Lib.hid ((HR9.out.on g).on Ba)
 have HVa := Lib.hid hVa
 clear g Ba hVa
 rw [show eP3 = [102,117,110,99,32,109,97,105,110,40,101,41,32,123,10,9,114,101,116,117,114,110,32,40,101,32,43,32,49,41,32,42,32,50,59,10,125,10] from rfl]
 go_upto_region 11 with (fail)
 rw [HVa.out]
 go_wp2_with fail
 refine (S13.out _ _ _ _ _ _ _ _ _ _ _ _ _ HPa.out HRa.out).mono ?_
 rintro e wb ⟨rfl,g⟩
 have b0 := g.cell' b0
 have b1 := g.cell' b1
 have Gb := Lib.hid (Bel.trans Ga.out g)
 have HPb := Lib.hid (HPa.out.on g)
 clear g
 go_wp2_with fail
 refine (S11.out _ _ _ _ _ _ _ _ _ _ _ _ _ HPb.out HPb.out).mono ?_
 rintro e wc ⟨rfl,g⟩
 have Gc := Lib.hid (Bel.trans Gb.out g)
 clear g
 go_wp2_with fail
 go_ret
 exact ⟨rfl,Gc.out⟩
open Go.RowKit Go.ChangeShapes Go.WideShapes Go.Deep
section
variable {H : Type} {enc : TypeId × Value → H} {w : World} {held : Bool}
def Wt (P : Program) (t : TypeId) (d : DataW H) : Prop := ∀ n ∈ d.weights P t,n ≤ reachBytes
theorem Wt.of {P : Program} {ts : List TypeId} {ds : List (DataW H)} (h : (DataW.weightsEach P ts ds).all (· ≤ reachBytes) = true) {j : Nat} {t : TypeId} {d : DataW H} (ht : ts[j]? = some t) (hd : ds[j]? = some d) : Wt P t d := fun n hn => by
 have := List.all_eq_true.1 h _ (DataW.weights_mem_each ht hd n hn)
 simpa using this
theorem wt_all {P : Program} {e : TypeId} {x : DataW H} {n : Nat} (hn : n ∈ x.weights P e) : ∀ {l : List (DataW H)},x ∈ l → n ∈ DataW.weightsAll P e l
 | y :: r,h => by
  simp only [DataW.weightsAll,List.mem_append]
  rcases List.mem_cons.1 h with rfl | h
  ·exact Or.inl hn
  ·exact Or.inr (wt_all hn h)
theorem Wt.slice {P : Program} {t e : TypeId} {es sp : List (DataW H)} (hu : P.underlying t = some (.slice e)) (h : Wt P t (.slice es sp)) : es.length * P.bytesOf e ≤ reachBytes ∧ ∀ x ∈ es,Wt P e x := by
 refine ⟨?_,fun x hx n hn => h n (by simp only [DataW.weights,hu,List.mem_cons,List.mem_append]; exact Or.inr (Or.inl (wt_all hn hx)))⟩
 have := h ((es.length + sp.length) * P.bytesOf e) (by simp [DataW.weights,hu])
 exact Nat.le_trans (Nat.mul_le_mul_right _ (by omega)) this
theorem Wt.agg {P : Program} {t : TypeId} {fs : Array Field} {ps : List (DataW H)} (hu : P.underlying t = some (.struct fs)) (h : Wt P t (.agg ps)) {j : Nat} {f : Field} {d : DataW H} (hf : fs[j]? = some f) (hd : ps[j]? = some d) : Wt P f.type d := fun n hn => h n (by
 simp only [DataW.weights,hu]
 exact DataW.weights_mem_each (j := j) (by simp [hf]) hd n hn)
theorem reach_lt {n k : Nat} (hk : 0 < k) (h : n * k ≤ reachBytes) : n ≤ 4611686018427387904 := by
 have h1 := reachBytes_lt
 have h2 : (2 : Nat) ^ 47 = 140737488355328 := by decide
 have h3 : n * 1 ≤ n * k := Nat.mul_le_mul_left _ hk
 omega
theorem ints_open {fuel : Nat} {cs : List Value} {x : DataW H × List MemPlace} {t : TypeId} (ht : Tryz.prog.underlying t = some (.slice 3)) (h : DataW.trod enc Tryz.prog w 0 (fun _ => true) held fuel t cs = some x) (hz : Wt Tryz.prog t x.1) :
  ∃ (o : Option Addr) (n c : Nat) (l : List Int),cs = [.slice o n c] ∧ ZArg w o n l ∧ n ≤ c ∧ n ≤ 4611686018427387904 := by
 rcases open_ints ht Tryz.underlying3 (by kernel_rfl) h with ⟨hcs,hx⟩ | ⟨a,len,cap,zs,hcs,_,hl,hm,hz',rfl,hcell,hwf⟩
 ·exact ⟨none,0,0,[],hcs,ZArg.nil w none,Nat.le_refl _,by omega⟩
 ·simp only [if_true] at hz'
  have hb : Tryz.prog.bytesOf 3 = 8 := by kernel_rfl
  have h1 := (hz.slice ht).1
  rw [hb] at h1
  have h2 := reach_lt (by omega) h1
  simp only [lits,List.length_map,List.length_take] at h2
  refine ⟨some a,len,cap,zs.take len,hcs,⟨by simp; omega,fun i hi => ⟨a,rfl,?_⟩⟩,hl,by omega⟩
  have hi' : i < len := by simp at hi; omega
  rw [hcell i (by omega)]
  simp [List.getD,List.getElem?_eq_getElem (show i < zs.length by omega)]
theorem rows_open {α : Type} {t e : TypeId} {K : Nat} {R : List Value → α → Prop} {fuel : Nat} {cs : List Value} {x : DataW H × List MemPlace} (ht : Tryz.prog.underlying t = some (.slice e)) (hK : Tryz.prog.cellsOf e = K) (hK0 : 0 < K)
  (he : ∀ n cs y,DataW.trod enc Tryz.prog w 0 (fun _ => true) held n e cs = some y → Wt Tryz.prog e y.1 → ∃ x : α,R cs x)
  (h : DataW.trod enc Tryz.prog w 0 (fun _ => true) held fuel t cs = some x) (hz : Wt Tryz.prog t x.1) :
  ∃ (o : Option Addr) (n c : Nat) (l : List α),cs = [.slice o n c] ∧ l.length = n ∧ n * Tryz.prog.bytesOf e ≤ reachBytes ∧ (∀ x ∈ l,∃ cs,R cs x) ∧ (0 < n → ∃ b off,o = some ⟨b,off,none⟩ ∧ ∀ i (h : i < l.length),∃ cs' : List Value,cs'.length = K ∧ R cs' l[i] ∧ ∀ j u,cs'[j]? = some u → w.cell? ⟨b,off + i * K + j,none⟩ = some u) := by
 rcases open_slice ht h with ⟨rfl,rfl⟩ | ⟨a,len,cap,m,n',D,Pl,rfl,hb,hl,hm,hmm,rfl,hi⟩
 ·exact ⟨none,0,0,[],rfl,rfl,by omega,fun x hx => (by cases hx),fun h0 => absurd h0 (Nat.lt_irrefl 0)⟩
 ·simp only [if_true] at hmm
  subst hmm
  have hs := hz.slice ht
  have each : ∀ i,i < len → ∃ x : α,∃ cs' : List Value,cs'.length = K ∧ R cs' x ∧ (∀ j,j < K → w.cell? ((a.add (i * K)).add j) = cs'[j]?) := fun i hil => by
   obtain ⟨cs',hcs,htr⟩ := hi i (by omega)
   obtain ⟨x,hx⟩ := he n' cs' _ htr (hs.2 _ (List.mem_map.2 ⟨i,List.mem_range.2 hil,rfl⟩))
   obtain ⟨-,hlen,hat⟩ := World.cells?_some hcs
   rw [hK] at hlen hat
   exact ⟨x,cs',hlen,hx,hat⟩
  have hsp : 0 < len → a.spot = none := fun h0 => by
   obtain ⟨x,cs',h1,-,h3⟩ := each 0 h0
   have h4 := h3 0 hK0
   have e : (a.add (0 * K)).add 0 = a := by unfold Addr.add; simp
   rw [e,List.getElem?_eq_getElem (by omega)] at h4
   exact Lex.spot_none h4
  rcases Nat.eq_zero_or_pos len with h0 | h0
  ·subst h0
   exact ⟨some a,0,m,[],rfl,rfl,by omega,fun x hx => (by cases hx),fun h0 => absurd h0 (Nat.lt_irrefl 0)⟩
  ·have a0 := Classical.choice (let ⟨x,_⟩ := each 0 h0; (⟨x⟩ : Nonempty α))
   obtain ⟨f,hf⟩ : ∃ f : Nat → α,∀ i,i < len → ∃ cs' : List Value,cs'.length = K ∧ R cs' (f i) ∧ (∀ j,j < K → w.cell? ((a.add (i * K)).add j) = cs'[j]?) :=
    ⟨fun i => if h : i < len then Classical.choose (each i h) else a0,fun i hi => by simp only [dif_pos hi]; exact Classical.choose_spec (each i hi)⟩
   refine ⟨some a,len,m,(List.range len).map f,rfl,by simp,by simpa using hs.1,fun x hx => ?_,fun _ => ?_⟩
   ·obtain ⟨i,hi',rfl⟩ := List.mem_map.1 hx
    obtain ⟨cs',-,h2,-⟩ := hf i (List.mem_range.1 hi')
    exact ⟨cs',h2⟩
   ·obtain ⟨ab,ao,asp⟩ := a
    have := hsp h0
    simp only at this
    subst this
    refine ⟨ab,ao,rfl,fun i hi' => ?_⟩
    have hil : i < len := by simpa using hi'
    obtain ⟨cs',h1,h2,h3⟩ := hf i hil
    refine ⟨cs',h1,by simpa using h2,fun j u hu => ?_⟩
    have hj : j < K := by
     rw [← h1]
     exact (List.getElem?_eq_some_iff.1 hu).1
    have := h3 j hj
    rw [Lex.add_none,Lex.add_none,hu] at this
    exact this
end
end Syn
end Go.Proofs.YtcapkeaedpabjaaGreatDoor
