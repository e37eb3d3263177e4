/-
  Layer 8, texts merged: SynW, SynX, SynY, SynZ, SzA, SzB. For every argument within the bounds that each theorem names.
-/
import Derived.Test.YtcapkeaedpabjaaGreatDoorYF2
import Derived.Laws.Cover1
set_option maxRecDepth 100000
set_option maxHeartbeats 16000000

/-
 Layer 8: the state in which the parts of a node are read.
-/
namespace Go.Proofs.YtcapkeaedpabjaaGreatDoor
open Go.RowKit Go.ChangeShapes Go.WideShapes
namespace Syn

theorem sizes_snoc (a : Ts) (t : T) : sizes (snoc a t) = sizes a + size t := by unfold snoc; rw [sizes_app,sizes,sizes,Nat.add_zero]
theorem flats_snoc (n : Nat) (a : Ts) (t : T) : flats n (snoc a t) = flats n a ++ flat (n + sizes a) t := by unfold snoc; rw [flats_app,flats,flats,List.append_nil]
theorem roots_snoc (n : Nat) (a : Ts) (t : T) : roots n (snoc a t) = roots n a ++ [(n : Int) + (sizes a : Int) + (size t : Int) - 1] := by
 have := size_pos t
 unfold snoc
 rw [roots_app,roots,roots]
 congr 2
 omega
theorem count_app : ∀ a b,count (app a b) = count a + count b
 | .nil,b => by rw [app,count,Nat.zero_add]
 | .cons t r,b => by rw [app,count,count,count_app r]; omega
theorem count_snoc (a : Ts) (t : T) : count (snoc a t) = count a + 1 := by unfold snoc; rw [count_app,count,count]
def encZ (l : List Int) : List Value := l.map (Value.int .i64)
def encK (l : List Txt) : List Value := l.map fun s => Value.string ⟨s.toArray⟩
theorem encZ_len (l : List Int) : (encZ l).length = l.length := by simp [encZ]
theorem encK_len (l : List Txt) : (encK l).length = l.length := by simp [encK]
theorem own_zarg {w : World} {base : Nat} {e : TypeId} {o : Option Addr} {k c : Nat} {l : List Int} (h : w.ownsRow base e 1 (.slice o k c) k (encZ l)) : ZArg w o k l := by
 have hl : l.length = k := by have := h.1; rw [encZ_len] at this; omega
 refine ⟨hl,fun i hi => ?_⟩
 rcases h.2 with ⟨hv,hk⟩ | ⟨g,cap,cur,hv,_,_,_⟩
 ·omega
 ·simp only [Value.slice.injEq] at hv
  obtain ⟨rfl,-,rfl⟩ := hv
  exact ⟨_,rfl,h.cells rfl i _ (by simp [encZ,List.getElem?_eq_getElem hi])⟩
theorem own_karg {w : World} {base : Nat} {e : TypeId} {o : Option Addr} {k c : Nat} {l : List Txt} (h : w.ownsRow base e 1 (.slice o k c) k (encK l)) : KArg w o k l := by
 have hl : l.length = k := by have := h.1; rw [encK_len] at this; omega
 refine ⟨by rw [List.length_map]; exact hl,fun i hi => ?_⟩
 rw [List.length_map] at hi
 rcases h.2 with ⟨hv,hk⟩ | ⟨g,cap,cur,hv,_,_,_⟩
 ·omega
 ·simp only [Value.slice.injEq] at hv
  obtain ⟨rfl,-,rfl⟩ := hv
  refine ⟨_,rfl,?_⟩
  rw [h.cells rfl i (.string ⟨l[i].toArray⟩) (by simp [encK,List.getElem?_eq_getElem hi])]
  simp [bz]
theorem own_cap {w : World} {base : Nat} {e : TypeId} {o : Option Addr} {k c : Nat} {z : Nat} {xs : List Value} (h : w.ownsRow base e z (.slice o k c) k xs) : k ≤ c := by
 rcases h.2 with ⟨hv,hk⟩ | ⟨g,cap,cur,hv,_,_,hc,_⟩
 ·omega
 ·simp only [Value.slice.injEq] at hv
  omega
structure NBox (w : World) (b : Nat) (k : Int) (s : Txt) (i : Int) (ks js : Value) : Prop where
 k : w.cell? ⟨b,0,none⟩ = some (.int .i64 k)
 s : w.cell? ⟨b,1,none⟩ = some (.string ⟨s.toArray⟩)
 i : w.cell? ⟨b,2,none⟩ = some (.int .i64 i)
 ks : w.cell? ⟨b,3,none⟩ = some ks
 js : w.cell? ⟨b,4,none⟩ = some js
 fz : ∀ j,w.frozen? ⟨b,j,none⟩ = false
theorem NBox.same {w w' : World} {b : Nat} {k : Int} {s : Txt} {i : Int} {ks js : Value} (h : NBox w b k s i ks js) (e : w'.heap[b]? = w.heap[b]?) : NBox w' b k s i ks js :=
 ⟨(World.cell?_of_block (a := ⟨b,0,none⟩) e).trans h.k,(World.cell?_of_block (a := ⟨b,1,none⟩) e).trans h.s,(World.cell?_of_block (a := ⟨b,2,none⟩) e).trans h.i,(World.cell?_of_block (a := ⟨b,3,none⟩) e).trans h.ks,(World.cell?_of_block (a := ⟨b,4,none⟩) e).trans h.js,fun j => (World.frozen?_of_block (a := ⟨b,j,none⟩) e).trans (h.fz j)⟩
theorem NBox.lt {w : World} {b : Nat} {k : Int} {s : Txt} {i : Int} {ks js : Value} (h : NBox w b k s i ks js) : b < w.heap.size := cell_lt' h.k
theorem NBox.setJ {w : World} {b : Nat} {k : Int} {s : Txt} {i : Int} {ks js : Value} (h : NBox w b k s i ks js) (v : Value) : NBox (w.setCell ⟨b,4,none⟩ v) b k s i ks v :=
 ⟨(World.cell?_setCell_other w ⟨b,4,none⟩ ⟨b,0,none⟩ v (by simp)).trans h.k,(World.cell?_setCell_other w ⟨b,4,none⟩ ⟨b,1,none⟩ v (by simp)).trans h.s,(World.cell?_setCell_other w ⟨b,4,none⟩ ⟨b,2,none⟩ v (by simp)).trans h.i,(World.cell?_setCell_other w ⟨b,4,none⟩ ⟨b,3,none⟩ v (by simp)).trans h.ks,World.cell?_setCell_same w _ _ h.js,fun j => by rw [World.frozen?_setCell]; exact h.fz j⟩
theorem NBox.setK {w : World} {b : Nat} {k : Int} {s : Txt} {i : Int} {ks js : Value} (h : NBox w b k s i ks js) (v : Value) : NBox (w.setCell ⟨b,3,none⟩ v) b k s i v js :=
 ⟨(World.cell?_setCell_other w ⟨b,3,none⟩ ⟨b,0,none⟩ v (by simp)).trans h.k,(World.cell?_setCell_other w ⟨b,3,none⟩ ⟨b,1,none⟩ v (by simp)).trans h.s,(World.cell?_setCell_other w ⟨b,3,none⟩ ⟨b,2,none⟩ v (by simp)).trans h.i,World.cell?_setCell_same w _ _ h.ks,(World.cell?_setCell_other w ⟨b,3,none⟩ ⟨b,4,none⟩ v (by simp)).trans h.js,fun j => by rw [World.frozen?_setCell]; exact h.fz j⟩
structure Bx where
 r : Bool
 S : Nat → Prop
 p : Nat
 n : Nat
 o : Option Addr
 L : List Nd
 w : World
 bn : Nat
 rb : Nat
 kb : Nat
 k : Int
 s : Txt
 i : Int
def Bx.T (y : Bx) (qo ko : Option Addr) (b : Nat) : Prop := y.S b ∨ b = y.bn ∨ b = y.rb ∨ Blk qo b ∨ Blk ko b
structure Bx.Ok (x : Cx) (y : Bx) : Prop where
 ne : y.r = true → y.bn ≠ y.rb
 kb : y.w.heap.size ≤ y.kb
 ge : y.w.heap.size ≤ y.bn ∧ y.w.heap.size ≤ y.rb
 xb : x.g < x.base ∧ x.tb < x.base ∧ x.base ≤ y.w.heap.size
 sg : y.S x.g
 sl : ∀ b,y.S b → b < y.w.heap.size
structure GS (x : Cx) (y : Bx) (ks : List Txt) (a : Ts) (p : Nat) (o : Option Addr) (c : Nat) (qo : Option Addr) (qc : Nat) (ko : Option Addr) (kc : Nat) (w : World) : Prop where
 rs : RS x (y.T qo ko) p o (y.n + sizes a) c (y.L ++ flats y.n a) w
 go : RTo x.g y.o y.w o w
 box : NBox w y.bn y.k y.s y.i (.slice qo ks.length qc) (.slice ko (count a) kc)
 ptr : y.r = true → w.cell? ⟨y.rb,0,none⟩ = some (.pointer (some ⟨x.g,0,none⟩))
 keys : w.ownsRow y.kb 9 1 (.slice qo ks.length qc) ks.length (encK ks)
 kids : w.ownsRow y.kb 3 1 (.slice ko (count a) kc) (count a) (encZ (roots y.n a))
 apart : ∀ b,Blk qo b → ¬ Blk ko b
 sz : sizes a + y.p ≤ p
 kb : y.kb ≤ w.heap.size
 nb : ∀ b,Blk qo b ∨ Blk ko b → b ≠ y.bn ∧ b ≠ y.rb
 rl : y.rb < w.heap.size
theorem GS.far {x : Cx} {y : Bx} {ks : List Txt} {a : Ts} {p : Nat} {o : Option Addr} {c : Nat} {qo : Option Addr} {qc : Nat} {ko : Option Addr} {kc : Nat} {w : World} (h : GS x y ks a p o c qo qc ko kc w) (_ok : y.Ok x) :
  (∀ b,Blk qo b → y.kb ≤ b ∧ b < w.heap.size) ∧ (∀ b,Blk ko b → y.kb ≤ b ∧ b < w.heap.size) :=
 ⟨fun b hb => h.keys.lt b ((blk_of h.keys).1 hb),fun b hb => h.kids.lt b ((blk_of h.kids).1 hb)⟩
theorem GS.step {x : Cx} {y : Bx} {ks : List Txt} {a : Ts} {p p' : Nat} {o o' : Option Addr} {c c' : Nat} {qo : Option Addr} {qc : Nat} {ko : Option Addr} {kc : Nat} {w w' : World} (h : GS x y ks a p o c qo qc ko kc w) (ok : y.Ok x) (t : RTo x.g o w o' w') (hR : RS x (y.T qo ko) p' o' (y.n + sizes a) c' (y.L ++ flats y.n a) w') (hs : p ≤ p') : GS x y ks a p' o' c' qo qc ko kc w' := by
 have f := h.far ok
 have hF : ∀ b,y.T qo ko b → b ≠ x.g → ¬ (b = x.g ∨ Blk o b) := fun b hb hg k => by
  rcases k with k | k
  ·exact hg k
  ·exact (h.rs.sl b hb).2 k
 have e1 : y.bn ≠ x.g := by have := ok.ge; have := ok.xb; omega
 have e2 : y.rb ≠ x.g := by have := ok.ge; have := ok.xb; omega
 have e3 : ∀ b,y.kb ≤ b → b ≠ x.g := fun b hb => by have := ok.xb; have := ok.kb; omega
 refine ⟨hR,h.go.trans t,?_,fun hr => t.mod.cell (h.ptr hr) (hF y.rb (Or.inr (Or.inr (Or.inl rfl))) e2),own_kept h.keys t.mod fun b hb => hF b (Or.inr (Or.inr (Or.inr (Or.inl ((blk_of h.keys).2 hb))))) (e3 b (f.1 b ((blk_of h.keys).2 hb)).1),?_,h.apart,Nat.le_trans h.sz hs,Nat.le_trans h.kb t.mod.size,h.nb,Nat.lt_of_lt_of_le h.rl t.mod.size⟩
 ·exact h.box.same (t.mod.block _ h.box.lt (hF _ (Or.inr (Or.inl rfl)) e1))
 ·exact own_kept h.kids t.mod fun b hb => hF b (Or.inr (Or.inr (Or.inr (Or.inr ((blk_of h.kids).2 hb))))) (e3 b (f.2 b ((blk_of h.kids).2 hb)).1)
theorem RS.rows {F : Nat → Prop} {x : Cx} {S S' : Nat → Prop} {p : Nat} {o : Option Addr} {n c : Nat} {L : List Nd} {w w' : World} (h : RS x S p o n c L w) (m : Mod F w w') (hF : ∀ b,F b → S b) (hg : ¬ F x.g) (ht : ¬ F x.tb) (hS : ∀ b,S' b → S b ∨ w.heap.size ≤ b) (hl : ∀ b,S' b → b < w'.heap.size) (hs : S' x.g) : RS x S' p o n c L w' := by
 have k := h.mod m hF hg ht
 have h1 : NOwn (fun b => S b ∨ S' b) w x.base o n c L := h.own.wide (fun b hb => hb.elim Or.inl (hS b))
 have h2 := h1.mod m (fun b hb => Or.inl (hF b hb)) (fun b hb q => (h.sl b (hF b q)).2 hb)
 have h3 : NOwn S' w' x.base o n c L := h2.wide (fun b hb => Or.inl (Or.inr hb))
 refine ⟨k.ts,k.nod,h3,k.lt,hs,fun b hb => ⟨hl b hb,fun q => ?_⟩,k.np⟩
 rcases hS b hb with e | e
 ·exact (h.sl b e).2 q
 ·have := (h.own.blk q).2
  omega
theorem GS.kid {x : Cx} {y : Bx} {ks : List Txt} {a : Ts} {p p1 : Nat} {o o1 : Option Addr} {c c1 : Nat} {qo : Option Addr} {qc : Nat} {ko : Option Addr} {kc : Nat} {w w1 w2 w3 : World} {t : T} {gg cap : Nat} (h : GS x y ks a p o c qo qc ko kc w) (ok : y.Ok x) (hp : size t + p ≤ p1)
  (r : RS x (y.T qo ko) p1 o1 (y.n + sizes a + size t) c1 (y.L ++ flats y.n a ++ flat (y.n + sizes a) t) w1) (k : RTo x.g o w o1 w1) (B : Bel w1 w2)
  (hown : w3.ownsRow y.kb 3 1 (.slice (some ⟨gg,0,none⟩) (count a + 1) cap) (count a + 1) (encZ (roots y.n a) ++ [.int .i64 ((y.n : Int) + (sizes a : Int) + (size t : Int) - 1)])) (hg : w2.grownBy w3 (Value.slice ko (count a) kc).ownBlock) (hat : (Value.slice ko (count a) kc).ownBlock = some gg ∨ gg = w2.heap.size) :
  GS x y ks (snoc a t) p1 o1 c1 qo qc (some ⟨gg,0,none⟩) cap (w3.setCell ⟨y.bn,4,none⟩ (.slice (some ⟨gg,0,none⟩) (count a + 1) cap)) := by
 have f := h.far ok
 have e1 : y.bn ≠ x.g := by have := ok.ge; have := ok.xb; omega
 have e2 : y.rb ≠ x.g := by have := ok.ge; have := ok.xb; omega
 have e3 : ∀ b,y.kb ≤ b → b ≠ x.g ∧ b ≠ x.tb := fun b hb => by have := ok.xb; have := ok.kb; omega
 have hF : ∀ b,y.T qo ko b → b ≠ x.g → ¬ (b = x.g ∨ Blk o b) := fun b hb hg k => by
  rcases k with k | k
  ·exact hg k
  ·exact (h.rs.sl b hb).2 k
 have m1 : Mod (fun b => b = x.g ∨ Blk o b) w w2 := k.mod.trans (Mod.of_bel (F := fun _ => False) B) (fun _ q => q.elim)
 have m2 : Mod (fun b => Blk ko b) w2 w3 := Mod.grown hg (fun b hb => (blk_of h.kids).2 hb)
 have m3 : Mod (fun b => b = y.bn) w3 (w3.setCell ⟨y.bn,4,none⟩ (.slice (some ⟨gg,0,none⟩) (count a + 1) cap)) := (Mod.refl (fun b => b = y.bn) w3).setCell (p := ⟨y.bn,4,none⟩) (Or.inl rfl) _
 have hbx : NBox w2 y.bn y.k y.s y.i (.slice qo ks.length qc) (.slice ko (count a) kc) := h.box.same (m1.block _ h.box.lt (hF _ (Or.inr (Or.inl rfl)) e1))
 have hbx3 : NBox w3 y.bn y.k y.s y.i (.slice qo ks.length qc) (.slice ko (count a) kc) := hbx.same (m2.block _ hbx.lt fun q => (h.nb _ (Or.inr q)).1 rfl)
 have hpt : y.r = true → w2.cell? ⟨y.rb,0,none⟩ = some (.pointer (some ⟨x.g,0,none⟩)) := fun hr => m1.cell (h.ptr hr) (hF y.rb (Or.inr (Or.inr (Or.inl rfl))) e2)
 have hks : w2.ownsRow y.kb 9 1 (.slice qo ks.length qc) ks.length (encK ks) := own_kept h.keys m1 fun b hb => hF b (Or.inr (Or.inr (Or.inr (Or.inl ((blk_of h.keys).2 hb))))) (e3 b (f.1 b ((blk_of h.keys).2 hb)).1).1
 have hblk : ∀ b,Blk (some (⟨gg,0,none⟩ : Addr)) b → b = gg := fun b ⟨_,q⟩ => by simp only [Option.some.injEq,Addr.mk.injEq] at q; exact q.1.symm
 have hgg : y.kb ≤ gg ∧ gg < w3.heap.size := hown.lt gg rfl
 have r2 := r.on B
 have hgn : gg ≠ y.bn ∧ gg ≠ y.rb := by
  rcases hat with q | q
  ·exact h.nb gg (Or.inr ((blk_of h.kids).2 q))
  ·have := hbx.lt; have := h.rl; have := m1.size; omega
 refine ⟨?_,?_,?_,?_,?_,?_,?_,?_,Nat.le_trans h.kb (Nat.le_trans m1.size (Nat.le_trans m2.size m3.size)),fun b hb => hb.elim (fun q => h.nb b (Or.inl q)) (fun q => by rw [hblk b q]; exact hgn),Nat.lt_of_lt_of_le h.rl (Nat.le_trans m1.size (Nat.le_trans m2.size m3.size))⟩
 ·have r3 : RS x (y.T qo (some ⟨gg,0,none⟩)) p1 o1 (y.n + sizes a + size t) c1 (y.L ++ flats y.n a ++ flat (y.n + sizes a) t) w3 := by
   refine r2.rows m2 (fun b hb => Or.inr (Or.inr (Or.inr (Or.inr hb)))) (fun q => (e3 _ (f.2 _ q).1).1 rfl) (fun q => (e3 _ (f.2 _ q).1).2 rfl) (fun b hb => ?_) (fun b hb => ?_) (Or.inl ok.sg)
   ·rcases hb with q | q | q | q | q
    ·exact Or.inl (Or.inl q)
    ·exact Or.inl (Or.inr (Or.inl q))
    ·exact Or.inl (Or.inr (Or.inr (Or.inl q)))
    ·exact Or.inl (Or.inr (Or.inr (Or.inr (Or.inl q))))
    ·rw [hblk b q]
     rcases hat with q | q
     ·exact Or.inl (Or.inr (Or.inr (Or.inr (Or.inr ((blk_of h.kids).2 q)))))
     ·exact Or.inr (by omega)
   ·rcases hb with q | q | q | q | q
    ·exact Nat.lt_of_lt_of_le (r2.sl b (Or.inl q)).1 m2.size
    ·exact Nat.lt_of_lt_of_le (r2.sl b (Or.inr (Or.inl q))).1 m2.size
    ·exact Nat.lt_of_lt_of_le (r2.sl b (Or.inr (Or.inr (Or.inl q)))).1 m2.size
    ·exact Nat.lt_of_lt_of_le (r2.sl b (Or.inr (Or.inr (Or.inr (Or.inl q))))).1 m2.size
    ·rw [hblk b q]; exact hgg.2
  have r4 := r3.mod m3 (fun b hb => Or.inr (Or.inl hb)) (fun q => e1 q.symm) (fun q => by have := ok.ge; have := ok.xb; omega)
  rw [sizes_snoc,flats_snoc,← List.append_assoc,← Nat.add_assoc]
  exact r4
 ·refine ⟨((h.go.mod.trans m1 fun b q => ?_).trans m2 fun b q => Or.inr ?_).trans m3 fun b q => Or.inr ?_,fun b q => ?_⟩
  ·rcases q with q | q
   ·exact Or.inl (Or.inl q)
   ·rcases h.go.at_ b q with z | z
    ·exact Or.inl (Or.inr z)
    ·exact Or.inr z
  ·have := (f.2 b q).1; have := ok.kb; omega
  ·have := ok.ge; omega
  ·rcases k.at_ b q with z | z
   ·exact h.go.at_ b z
   ·exact Or.inr (Nat.le_trans h.go.mod.size z)
 ·rw [count_snoc]
  exact hbx3.setJ _
 ·exact fun hr => (World.cell?_setCell_far w3 ⟨y.bn,4,none⟩ ⟨y.rb,0,none⟩ _ (ok.ne hr)).trans (m2.cell (hpt hr) fun q => (h.nb _ (Or.inr q)).2 rfl)
 ·exact own_kept (own_kept hks m2 fun b hb q => h.apart b ((blk_of h.keys).2 hb) q) m3 fun b hb q => (h.nb b (Or.inl ((blk_of h.keys).2 hb))).1 q
 ·rw [count_snoc,roots_snoc,show encZ (roots y.n a ++ [(y.n : Int) + (sizes a : Int) + (size t : Int) - 1]) = encZ (roots y.n a) ++ [.int .i64 ((y.n : Int) + (sizes a : Int) + (size t : Int) - 1)] by simp [encZ]]
  exact own_kept hown m3 fun b hb q => by
   have : b = gg := Option.some.inj (hb.symm.trans rfl)
   exact hgn.1 (this ▸ q)
 ·intro b hb q
  rw [hblk b q] at hb
  rcases hat with z | z
  ·exact h.apart _ hb ((blk_of h.kids).2 z)
  ·have h1 := (f.1 _ hb).2
   have h2 := m1.size
   omega
 ·rw [sizes_snoc]
  have := h.sz
  omega

theorem info_int : (Tryz.prog.info? 3).map (fun i => (i.zero,i.size,i.bytes)) = some (some (.int .i64 0),1,8) := by kernel_rfl
theorem info_str : (Tryz.prog.info? 9).map (fun i => (i.zero,i.size,i.bytes)) = some (some (.string ByteArray.empty),1,16) := by kernel_rfl
def gK (f : Nat) (a : Ts) (r : List Ck) : RR Ts := match rdE f 1 r with | .ok t r' => .ok (snoc a t) r' | .bad r' => .bad r'
def GSt (x : Cx) (y : Bx) (ks : List Txt) (a : Ts) (p : Nat) (w : World) : Prop := ∃ o c qo qc ko kc,GS x y ks a p o c qo qc ko kc w
def GPn (x : Cx) (y : Bx) (e : Ending) (w : World) (r : List Ck) : Prop := Stops x y.o y.w e w r
theorem gst_keeps (x : Cx) (y : Bx) (ks : List Txt) (ok : y.Ok x) : Keeps x (GSt x y ks) (GPn x y) := by
 rintro a p w ⟨o,c,qo,qc,ko,kc,h⟩
 exact ⟨_,o,_,c,_,h.rs,fun p' w' r t hp => ⟨o,c,qo,qc,ko,kc,h.step ok t r hp⟩,fun e w' r hs => Stops.from h.go hs⟩
def KidOk (x : Cx) (y : Bx) (ks : List Txt) (a : Ts) (p : Nat) (ko : Option Addr) (kc : Nat) (t : T) (r : List Ck) (e : Ending) (w1 : World) : Prop := e = .returned (.int .i64 ((y.n : Int) + (sizes a : Int) + (size t : Int) - 1)) ∧ w1.cell? ⟨y.bn,4,none⟩ = some (.slice ko (count a) kc) ∧ w1.frozen? ⟨y.bn,4,none⟩ = false ∧ (y.r = true → w1.cell? ⟨y.rb,0,none⟩ = some (.pointer (some ⟨x.g,0,none⟩))) ∧ y.bn < w1.heap.size ∧
    Hid (∀ W',Bel w1 W' → W'.ownsRow y.kb 3 1 (.slice ko (count a) kc) (count a) (encZ (roots y.n a)) ∧ y.kb ≤ W'.heap.size) ∧
    Hid (∀ W' w3,Bel w1 W' → W'.grownBy w3 (Value.slice ko (count a) kc).ownBlock → w3.cell? ⟨y.bn,4,none⟩ = some (.slice ko (count a) kc) ∧ w3.frozen? ⟨y.bn,4,none⟩ = false) ∧
    Hid (∀ (W' w3 : World) (gg cap : Nat),Bel w1 W' → w3.ownsRow y.kb 3 1 (.slice (some ⟨gg,0,none⟩) (count a + 1) cap) (count a + 1) (encZ (roots y.n a) ++ [.int .i64 ((y.n : Int) + (sizes a : Int) + (size t : Int) - 1)]) → W'.grownBy w3 (Value.slice ko (count a) kc).ownBlock → ((Value.slice ko (count a) kc).ownBlock = some gg ∨ gg = W'.heap.size) → ∃ p1,GSt x y ks (snoc a t) p1 (w3.setCell ⟨y.bn,4,none⟩ (.slice (some ⟨gg,0,none⟩) (count a + 1) cap)) ∧ r = x.at p1 ∧ p < p1)
theorem kid_ok {x : Cx} {y : Bx} {ks : List Txt} {a : Ts} {p : Nat} {o : Option Addr} {c : Nat} {qo : Option Addr} {qc : Nat} {ko : Option Addr} {kc : Nat} {w : World} (ok : y.Ok x) (h : GS x y ks a p o c qo qc ko kc w) {F : FuncId} {G : List Ck → RR T} (hE : Rd x F G p) {t : T} {r : List Ck} (hg : G (x.at p) = .ok t r) : Calls Tryz.prog F #[.pointer (some ⟨x.g,0,none⟩)] w.drew (KidOk x y ks a p ko kc t r) := by
 have B : Bel w w.drew := Below.drew (Bel.refl w)
 have kbs : Hid (y.kb ≤ w.heap.size) := Lib.hid h.kb
 have HC := hE _ _ _ _ _ _ (h.rs.on B)
 rw [hg] at HC
 refine HC.mono fun e w1 (k : EPost x (y.T qo ko) p p (y.n + sizes a) o (y.L ++ flats y.n a) (.ok t r) w.drew e w1) => ?_
 obtain ⟨rfl,p1,o1,c1,r1,t1,e1,e2,e3⟩ := k
 have t0 := (RTo.of_bel (g := x.g) (o := o) B).trans t1
 have q1 : ¬ (y.bn = x.g ∨ Blk o y.bn) := fun q => by
  rcases q with q | q
  ·have := ok.ge; have := ok.xb; omega
  ·exact (h.rs.sl _ (Or.inr (Or.inl rfl))).2 q
 have q2 : ¬ (y.rb = x.g ∨ Blk o y.rb) := fun q => by
  rcases q with q | q
  ·have := ok.ge; have := ok.xb; omega
  ·exact (h.rs.sl _ (Or.inr (Or.inr (Or.inl rfl)))).2 q
 have nb := h.box.same (t0.mod.block _ h.box.lt q1)
 have ff := h.far ok
 have hk1 : w1.ownsRow y.kb 3 1 (.slice ko (count a) kc) (count a) (encZ (roots y.n a)) := own_kept h.kids t0.mod fun b hb q => by
  rcases q with q | q
  ·have := (ff.2 b ((blk_of h.kids).2 hb)).1; have := ok.xb; have := ok.kb; omega
  ·exact (h.rs.sl b (Or.inr (Or.inr (Or.inr (Or.inr ((blk_of h.kids).2 hb)))))).2 q
 refine ⟨by rw [show (((y.n + sizes a : Nat) : Int) + (size t : Int) - 1) = (y.n : Int) + (sizes a : Int) + (size t : Int) - 1 by omega],nb.js,nb.fz 4,fun hr => t0.mod.cell (h.ptr hr) q2,nb.lt,Lib.hid fun W' g => ⟨own_belz hk1 g,?_⟩,Lib.hid fun W' w3 g hgr => ?_,Lib.hid fun W' w3 gg cap g hown hgr hat => ⟨p1,⟨_,_,_,_,_,_,h.kid ok e3 r1 t0 g hown hgr hat⟩,e1,e2⟩⟩
 ·have := kbs.out; have := t0.mod.size; have := g.size; omega
 ·have hne : some y.bn ≠ (Value.slice ko (count a) kc).ownBlock := fun e => by
   exact (h.nb y.bn (Or.inr ((blk_of h.kids).2 e.symm))).1 rfl
  have hlt : y.bn < W'.heap.size := Nat.lt_of_lt_of_le nb.lt g.size
  exact ⟨(hgr.cell_far ⟨y.bn,4,none⟩ hlt hne).trans (g.cell' nb.js),(hgr.frozen_far ⟨y.bn,4,none⟩ hlt hne).trans ((nb.same (g.block _ nb.lt)).fz 4)⟩
theorem kid_bad {x : Cx} {y : Bx} {ks : List Txt} {a : Ts} {p : Nat} {o : Option Addr} {c : Nat} {qo : Option Addr} {qc : Nat} {ko : Option Addr} {kc : Nat} {w : World} (_ok : y.Ok x) (h : GS x y ks a p o c qo qc ko kc w) {F : FuncId} {G : List Ck → RR T} (hE : Rd x F G p) {r : List Ck} (hg : G (x.at p) = .bad r) : Calls Tryz.prog F #[.pointer (some ⟨x.g,0,none⟩)] w.drew fun e w' => e = .panicked [{ v := errV,recovered := false }] ∧ Hid (GPn x y e w' r) := by
 have B : Bel w w.drew := Below.drew (Bel.refl w)
 have HC := hE _ _ _ _ _ _ (h.rs.on B)
 rw [hg] at HC
 exact HC.mono fun e w' (k : Stops x o w.drew e w' r) => ⟨k.1,Lib.hid (Stops.from (h.go.bel B) k)⟩
theorem kid_any {x : Cx} {y : Bx} (hyr : y.r = true) (ok : y.Ok x) (f : Nat) (a : Ts) (p : Nat) (w : World) (h : GSt x y [] a p w) (hE : Lv x 261 1 11 p) (hf : 20 * (x.T.length - p) + 11 ≤ f) :
  Calls Tryz.prog 303 #[.pointer (some ⟨y.bn,0,none⟩),.pointer (some ⟨y.rb,0,none⟩)] w (IPost x (GSt x y []) (GPn x y) p (gK f a (x.at p))) := by
 obtain ⟨o,c,qo,qc,ko,kc,h⟩ := h
 have c4 := h.box.js
 have f4 := h.box.fz 4
 have cp := h.ptr hyr
 have hbn : y.bn < w.heap.size := h.box.lt
 have hrb : y.rb < w.heap.size := cell_lt' cp
 unfold gK
 cases hg : rdE f 1 (x.at p) with
 | bad r =>
  have HC2 := Lib.hid (kid_bad ok h (hE f hf) hg)
  clear h ok hE hg
  go_enter Tryz.func303,Tryz.ntmps303
  refine wp_region_held_drew (S := fun W => W.cell? ⟨y.bn,4,none⟩ = some (.slice ko (count a) kc) ∧ W.cell? ⟨y.rb,0,none⟩ = some (.pointer (some ⟨x.g,0,none⟩))) (by kernel_rfl) ⟨c4,cp⟩ (fun hH => ?_)
  refine wpAnyH_take (i := 0) (v := ?_) rfl (by kernel_rfl) (by kernel_rfl) (by kernel_rfl) (fun _ _ _ h => h) (Or.inl ⟨by rfl,?_⟩) (by assumption) ?_
  rotate_left 1
  ·intro w hSw
   go_simp
   with_reducible rfl
  refine wpAnyH_take (i := 1) (v := ?_) rfl (by kernel_rfl) (by kernel_rfl) (by kernel_rfl) (fun _ _ _ h => h) (Or.inl ⟨by rfl,?_⟩) (by assumption) ?_
  rotate_left 1
  ·intro w hSw
   have q := hSw.1
   go_simp
   with_reducible rfl
  refine wpAnyH_take (i := 2) (v := ?_) rfl (by kernel_rfl) (by kernel_rfl) (by kernel_rfl) (fun _ _ _ h => h) (Or.inl ⟨by rfl,?_⟩) (by assumption) ?_
  rotate_left 1
  ·intro w hSw
   have q := hSw.2
   go_simp
   with_reducible rfl
  refine wpAnyH_ready (rs := [3]) (by kernel_rfl) (by simp) ?_
  refine AllReadyH.cons rfl (fun K hK => ?_) AllReadyH.nil
  go_simp
  refine HC2.out.mono ?_
  rintro e w2 ⟨rfl,hS⟩
  exact ⟨rfl,hS.out⟩
 | ok t r =>
  obtain ⟨i0,hi0,hz0,hz1,hz2⟩ := info_parts info_int
  have Hi0 := Lib.hid hi0
  have Hz0 := Lib.hid hz0
  have Hz1 := Lib.hid hz1
  have Hz2 := Lib.hid hz2
  have hsm : count a ≤ 1000 := by have := sizes_le a; have := h.rs.np; have := h.rs.ts.pos; have := h.rs.ts.len; omega
  have HC2 := Lib.hid (kid_ok ok h (hE f hf) hg)
  have hml : Hid (count a + 1 ≤ maxLen) := Lib.hid (by unfold maxLen; omega)
  have hml2 : Hid ((count a + 1) * 8 ≤ 140737488355328) := Lib.hid (by omega)
  have hnw : Hid (∀ W' W'' : World,W''.heap[W'.heap.size]? = some (.cells #[.int .i64 ((y.n : Int) + (sizes a : Int) + (size t : Int) - 1)] 3) → ∀ j u,[.int .i64 ((y.n : Int) + (sizes a : Int) + (size t : Int) - 1)][j]? = some u → W''.cell? ((⟨W'.heap.size,0,none⟩ : Addr).add j) = some u) := Lib.hid fun W' W'' hW' => World.news_of_block (cs := #[.int .i64 ((y.n : Int) + (sizes a : Int) + (size t : Int) - 1)]) (t := 3) (fr := (0,0)) hW'
  clear hE hg h ok
  go_enter Tryz.func303,Tryz.ntmps303
  go_region_law (first | (refine step_append_lies _ (by rfl) _ _ _ (by rfl) y.kb 3 i0 _ 1 8 Tryz.underlying38 Hi0.out Hz0.out Hz1.out Hz2.out rfl (by omega) _ _ _ (by rfl) (hK1.out _ (by repeat (first | exact Bel.refl _ | refine Below.drew ?_ | refine Bel.alloc ?_ _))).1 ⟨w2.heap.size,0,none⟩ 1 1 [.int .i64 ((y.n : Int) + (sizes a : Int) + (size t : Int) - 1)] (by rfl) (by rfl) (hnw.out w2 _ (heap_new w2 _)) (by simp [Value.oneCell']) (by omega) hml.out hml2.out (hK1.out _ (by repeat (first | exact Bel.refl _ | refine Below.drew ?_ | refine Bel.alloc ?_ _))).2 _ rfl ?_; intro gg cap w3 hown3 hgrow hat hlt; obtain ⟨d5,g5⟩ := hK2.out _ w3 (by repeat (first | exact Bel.refl _ | refine Below.drew ?_ | refine Bel.alloc ?_ _)) hgrow) | (go_simp; go_at_call 261; (with_reducible refine HC2.out.mono ?_); rintro e w2 ⟨rfl,d4,g4,dp',hb2,hK1,hK2,hK3⟩; have dp := dp' hyr))
  all_goals
   obtain ⟨p1,k1,k2,k3⟩ := hK3.out _ w3 gg cap (by repeat (first | exact Bel.refl _ | refine Below.drew ?_ | refine Bel.alloc ?_ _)) hown3 hgrow hat
   subst k2
   first | (refine bodyPost_end (results_none rfl _ _ _) rfl ?_) | (refine bodyPost_ret (results_none rfl _ _ _) rfl ?_)
   exact IPost.mk k1 k3

theorem its_rdI (cl : Txt) : ∀ (f : Nat) (a : Ts) (r : List Ck),its gK cl f a r = rdI f cl a r
 | 0,a,r => by rw [its,rdI]
 | f + 1,a,r => by
  rw [its,rdI,gK]
  cases rdE f 1 r with
  | bad r' => rfl
  | ok t r' =>
   show (if isT [44] (hd r') = true then its gK cl f (snoc a t) r'.tail else _) = _
   rw [its_rdI cl f]
theorem itl_rdL (cl : Txt) (f : Nat) (r : List Ck) : itl gK cl f .nil r = rdL (f + 1) cl r := by rw [itl,rdL,its_rdI]
theorem kid_uses {w : World} {base b : Nat} {e : TypeId} {o : Option Addr} {k c : Nat} {xs : List Value} (h : w.ownsRow base e 1 (.slice o k c) k xs) (a : Addr) (ha : o = some a) (hb : a.block = b) : Blk o b := by
 rcases h.2 with ⟨hv,hk⟩ | ⟨g,cap,cur,hv,_,_,_⟩
 ·simp only [Value.slice.injEq] at hv
  rw [hv.1] at ha
  cases ha
 ·simp only [Value.slice.injEq] at hv
  obtain ⟨rfl,-,-⟩ := hv
  cases ha
  exact ⟨0,by rw [← hb]⟩
theorem fin_any {x : Cx} {y : Bx} {ks : List Txt} {a : Ts} {p : Nat} {o : Option Addr} {c : Nat} {qo : Option Addr} {qc : Nat} {ko : Option Addr} {kc : Nat} (w : World) (h : GS x y ks a p o c qo qc ko kc w) (ok : y.Ok x) (hn : y.n + 1 ≤ y.p) :
  Calls Tryz.prog 181 #[.pointer (some ⟨x.g,0,none⟩),.agg #[.int .i64 y.k,.string ⟨y.s.toArray⟩,.int .i64 y.i,.slice qo ks.length qc,.slice ko (count a) kc]] w fun e w' => e = .returned (.int .i64 ((y.n : Int) + (sizes a : Int))) ∧ ∃ o' c',RS x y.S p o' (y.n + (sizes a + 1)) c' (y.L ++ flat y.n (.node y.k y.s y.i ks a)) w' ∧ RTo x.g y.o y.w o' w' := by
 have ff := h.far ok
 have hr : RS x y.S p o (y.n + sizes a) c (y.L ++ flats y.n a) w := h.rs.less (fun q hq => Or.inl hq) ok.sg
 refine (add_any (⟨y.k,y.s,y.i,qo,ks.length,qc,ko,count a,kc⟩ : Nv) ⟨y.k,y.s,y.i,ks,roots y.n a⟩ w hr ⟨rfl,rfl,rfl,own_karg h.keys,own_zarg h.kids,own_cap h.keys,own_cap h.kids⟩ ?_ (by have := h.sz; omega)).mono ?_
 ·rintro b (⟨ad,e,_,e2⟩ | ⟨ad,e,_,e2⟩)
  ·have hb := kid_uses h.keys ad e e2
   refine ⟨fun hs => ?_,(h.rs.sl b (Or.inr (Or.inr (Or.inr (Or.inl hb))))).2⟩
   have := (ff.1 b hb).1; have := ok.sl b hs; have := ok.kb
   omega
  ·have hb := kid_uses h.kids ad e e2
   refine ⟨fun hs => ?_,(h.rs.sl b (Or.inr (Or.inr (Or.inr (Or.inr hb))))).2⟩
   have := (ff.2 b hb).1; have := ok.sl b hs; have := ok.kb
   omega
 ·rintro e w' ⟨rfl,o',c',r,t⟩
  refine ⟨by rw [Int.natCast_add],o',c',?_,h.go.trans t⟩
  rw [flat,← List.append_assoc,← Nat.add_assoc]
  exact r
theorem gs_new {x : Cx} {S : Nat → Prop} {p : Nat} {o : Option Addr} {n c : Nat} {L : List Nd} {w : World} (h : RS x S p o n c L w) (k : Int) (s : Txt) (i : Int) (rb bn : Nat) (hr : w.heap.size ≤ rb) (hb : w.heap.size ≤ bn) (hne : bn ≠ rb) (W : World) (B : Bel w W) (hbx : NBox W bn k s i (.slice none 0 0) (.slice none 0 0)) (hp : W.cell? ⟨rb,0,none⟩ = some (.pointer (some ⟨x.g,0,none⟩))) :
  (⟨true,S,p,n,o,L,w,bn,rb,W.heap.size,k,s,i⟩ : Bx).Ok x ∧ GS x ⟨true,S,p,n,o,L,w,bn,rb,W.heap.size,k,s,i⟩ [] .nil p o c none 0 none 0 W := by
 have l1 := hbx.lt
 have l2 : rb < W.heap.size := cell_lt' hp
 refine ⟨⟨fun _ => hne,B.size,⟨hb,hr⟩,h.lt,h.sg,fun b hb => (h.sl b hb).1⟩,⟨?_,RTo.of_bel B,hbx,fun _ => hp,World.ownsRow_nil _ _ _ _,World.ownsRow_nil _ _ _ _,fun b ⟨_,q⟩ => (by cases q),(by show sizes .nil + p ≤ p; rw [sizes]; omega),Nat.le_refl _,fun b q => (by rcases q with ⟨_,q⟩ | ⟨_,q⟩ <;> cases q),l2⟩⟩
 show RS x _ p o (n + sizes .nil) c (L ++ flats n .nil) W
 rw [sizes,flats,List.append_nil,Nat.add_zero]
 refine h.wide B (fun q hq => ?_) (fun q hq => ?_) (Or.inl h.sg)
 ·rcases hq with q1 | rfl | rfl | ⟨_,q1⟩ | ⟨_,q1⟩
  ·exact Or.inl q1
  ·exact Or.inr hb
  ·exact Or.inr hr
  ·cases q1
  ·cases q1
 ·rcases hq with q1 | rfl | rfl | ⟨_,q1⟩ | ⟨_,q1⟩
  ·exact Nat.lt_of_lt_of_le (h.sl q q1).1 B.size
  ·exact l1
  ·exact l2
  ·cases q1
  ·cases q1
theorem ent_kid : ∀ args w,(callFunc 303 args).run Tryz.prog w = .ok (.enter 303 args) w := enters_of Tryz.func303 (by kernel_rfl) rfl
def grpR (k : Int) (s : Txt) : RR Ts → RR T
 | .ok ts r => .ok (.node k s 0 [] ts) r
 | .bad r => .bad r
theorem group_any {x : Cx} {S : Nat → Prop} {p q : Nat} {o : Option Addr} {n c : Nat} {L : List Nd} (k : Int) (s cl : Txt) (w : World) (h : RS x S p o n c L w) (hn : n + 1 ≤ p) (hq : q + 1 ≤ p) (hE : ∀ p',p ≤ p' → Lv x 261 1 11 p') (f : Nat) (hf : 20 * (x.T.length - p) + 13 ≤ f) :
  Calls Tryz.prog 301 #[.pointer (some ⟨x.g,0,none⟩),.agg #[.int .i64 k,.string ⟨s.toArray⟩,.int .i64 0,.slice none 0 0,.slice none 0 0],.string ⟨cl.toArray⟩] w (EPost x S p q n o L (grpR k s (rdL f cl (x.at p))) w) := by
 obtain ⟨f,rfl⟩ : ∃ g,f = g + 1 := ⟨f - 1,by omega⟩
 have hmf := hmf_any
 obtain ⟨W,hW⟩ : ∃ W,(w.alloc (.cells #[.pointer (some ⟨x.g,0,none⟩)] 97)).alloc (.cells #[.int .i64 k,.string ⟨s.toArray⟩,.int .i64 0,.slice none 0 0,.slice none 0 0] 65) = W := ⟨_,rfl⟩
 have B : Bel w W := by rw [← hW]; exact Bel.alloc (Bel.alloc (Bel.refl w) _) _
 have hb5 : NBox W (w.heap.size + 1) k s 0 (.slice none 0 0) (.slice none 0 0) := by
  have e : (w.alloc (.cells #[.pointer (some ⟨x.g,0,none⟩)] 97)).heap.size = w.heap.size + 1 := by show (w.heap.push _).size = _; simp
  rw [← hW,← e]
  obtain ⟨y0,y1,y2,y3,y4⟩ := box5 (w.alloc (.cells #[.pointer (some ⟨x.g,0,none⟩)] 97)) (.int .i64 k) (.string ⟨s.toArray⟩) (.int .i64 0) (.slice none 0 0) (.slice none 0 0) 65
  exact ⟨y0,y1,y2,y3,y4,fun j => World.frozen?_alloc_new _ _ _ _⟩
 have hpt : W.cell? ⟨w.heap.size,0,none⟩ = some (.pointer (some ⟨x.g,0,none⟩)) := by
  rw [← hW]
  refine (Bel.alloc (Bel.refl _) _).cell ?_
  rw [World.cell?_alloc_new]
  rfl
 obtain ⟨ok,g0⟩ := gs_new h k s 0 w.heap.size (w.heap.size + 1) (Nat.le_refl _) (by omega) (by omega) W B hb5 hpt
 have HI := Lib.hid (fun (W' : World) (hg : GSt x ⟨true,S,p,n,o,L,w,w.heap.size + 1,w.heap.size,W.heap.size,k,s,0⟩ [] .nil p W') => items_any (k := 11) (by decide) #[.pointer (some ⟨w.heap.size + 1,0,none⟩),.pointer (some ⟨w.heap.size,0,none⟩)] ent_kid (gst_keeps x _ [] ok) (fun e w r hs => hs.1) p (fun f a p' w' hp hst hf => kid_any rfl ok f a p' w' hst (hE p' hp) hf) cl f (by omega) .nil W' hg)
 rw [← itl_rdL]
 generalize itl gK cl f .nil (x.at p) = X at *
 have G0 := Lib.hid g0
 have OK := Lib.hid ok
 have Hw := Lib.hid hW
 have k1 := hb5.k
 have k2 := hb5.s
 have k3 := hb5.i
 have k4 := hb5.ks
 have k5 := hb5.js
 clear h hE B hb5 ok g0 hW
 go_enter Tryz.func301,Tryz.ntmps301
 go_wp2_with fail
 rw [Hw.out]
 refine (HI.out W ⟨_,_,_,_,_,_,G0.out⟩).mono ?_
 intro e w2 h2
 clear HI
 cases X with
 | bad r =>
  obtain ⟨rfl,H2⟩ := h2
  have H2c := Lib.hid H2
  clear H2
  go_wp2_with fail
  exact ⟨rfl,rfl,H2c.out⟩
 | ok ts r =>
  obtain ⟨rfl,p',⟨o',c',qo,qc,ko,kc,g2⟩,rfl,hp'⟩ := h2
  have HF := Lib.hid (fin_any w2 g2 OK.out hn)
  have e1 := g2.box.k
  have e2 := g2.box.s
  have e3 := g2.box.i
  have e4 := g2.box.ks
  have e5 := g2.box.js
  have e6 := g2.ptr rfl
  have hsz := g2.sz
  dsimp only at e1 e2 e3 e4 e5 e6 hsz HF
  simp only [List.length_nil] at e4 HF
  clear g2 k1 k2 k3 k4 k5 hpt G0 Hw OK
  go_wp2_with fail
  refine HF.out.mono ?_
  rintro e w3 ⟨rfl,o3,c3,r3,t3⟩
  have R3 := Lib.hid r3
  have T3 := Lib.hid t3
  clear r3 t3
  go_wp2_with fail
  go_ret
  exact EPost.mk (p := p) (q := q) (p' := p') (t := .node k s 0 [] ts) (o' := o3) (c' := c3) (by rw [size] <;> omega) R3.out T3.out hp' (by rw [size]; omega)

theorem tl_list (l : Txt) : (⟨l.toArray⟩ : ByteArray).toList = l := Go.ByteArray.toList_mk _
theorem keyB_last (ks : List Txt) (l : Txt) (c : Ck) : keyB (ks ++ [l]) c = (c.1 == 4 && !leqT c.2.1 l) := by simp [keyB]
theorem karg_last {w : World} {o : Option Addr} {n : Nat} {ks : List Txt} {l : Txt} (h : KArg w o n (ks ++ [l])) : n = ks.length + 1 ∧ ∃ b off,o = some ⟨b,off,none⟩ ∧ w.cell? ⟨b,off + ks.length,none⟩ = some (.string ⟨l.toArray⟩) := by
 have h1 := h.1
 rw [List.length_map,List.length_append,List.length_singleton] at h1
 refine ⟨h1.symm,?_⟩
 obtain ⟨b,off,rfl,hc⟩ := sl_addr h (by omega)
 refine ⟨b,off,rfl,?_⟩
 have := hc ks.length (by simp)
 rw [this]
 simp [bz]
theorem key_yes {x : Cx} {S : Nat → Prop} {p : Nat} {o : Option Addr} {n c : Nat} {L : List Nd} (ks : List Txt) (qo : Option Addr) (m qc : Nat) (hm : m ≤ 1000) (w : World) (h : RS x S p o n c L w) (hA : KArg w qo m ks) (hb : keyB ks (hd (x.at p)) = true) :
  Calls Tryz.prog 305 #[.pointer (some ⟨x.g,0,none⟩),.slice qo m qc] w fun e w' => e = .returned (.string ⟨(hd (x.at p)).2.1.toArray⟩) ∧ RS x S (p + 1) o n c L w' ∧ RTo x.g o w o w' := by
 obtain ⟨m0,d,c0,e1,e2,e3⟩ := h.ts.tok
 obtain ⟨t0,t1,t2,t3⟩ := h.ts.tks p h.ts.pos
 have hk4 : (hd (x.at p)).1 = 4 := by unfold keyB at hb; rw [Bool.and_eq_true] at hb; exact eq_of_beq hb.1
 have hT := fun W (B : Bel w W) => (take_any W (h.on B) (kind_lt hk4 (by decide))).mono fun e w' (k : e = .returned (tokV (x.tok p)) ∧ RS x S (p + 1) o n c L w' ∧ RTo x.g o W o w') => show e = .returned (tokV (x.tok p)) ∧ RS x S (p + 1) o n c L w' ∧ RTo x.g o w o w' from ⟨k.1,k.2.1,(RTo.of_bel B).trans k.2.2⟩
 rw [hd_at] at hb hk4 ⊢
 have hlt : x.g < w.heap.size := cell_lt' c0
 have htb : x.tb < w.heap.size := cell_lt' t0
 unfold tokV at hT
 generalize x.tok p = t at *
 obtain ⟨⟨tk,tx,ti⟩,ta⟩ := t
 dsimp only at t0 t1 t2 t3 hb hT hk4 ⊢
 subst hk4
 have hF := fun (a b c d : Value) (w : World) => field_text a b c d w
 have HT := Lib.hid hT
 have H := Lib.hid h
 clear h e1 e2 e3 hT
 generalize p * 4 = q at *
 have fin : True := trivial
 rcases List.eq_nil_or_concat ks with rfl | ⟨ks,l,rfl⟩
 ·obtain rfl : m = 0 := by have := hA.1; simpa using this.symm
  go_enter Tryz.func305,Tryz.ntmps305
  go_wp2_with fail
  go_quiet (fail)
  go_wp2_with fail
  refine (HT.out _ (by repeat (first | exact Bel.refl _ | refine Bel.drewN ?_ _ | refine Bel.alloc ?_ _))).mono ?_
  rintro e w2 ⟨rfl,r2,t2⟩
  have R2 := Lib.hid r2
  have T2 := Lib.hid t2
  clear r2 t2
  go_wp2_with fail
  go_ret
  exact ⟨rfl,R2.out,T2.out⟩
 ·rw [List.concat_eq_append] at hA hb
  obtain ⟨rfl,b,off,rfl,hc⟩ := karg_last hA
  rw [keyB_last,Bool.and_eq_true] at hb
  have hle : leqT tx l = false := by simpa using hb.2
  unfold leqT at hle
  have hbl : b < w.heap.size := cell_lt' hc
  generalize ks.length = K at *
  clear hb hA
  go_enter Tryz.func305,Tryz.ntmps305
  go_wp2_with fail
  go_quiet (fail)
  go_wp2_with fail
  refine (HT.out _ (by repeat (first | exact Bel.refl _ | refine Bel.drewN ?_ _ | refine Bel.alloc ?_ _))).mono ?_
  rintro e w2 ⟨rfl,r2,t2⟩
  have R2 := Lib.hid r2
  have T2 := Lib.hid t2
  clear r2 t2
  go_wp2_with fail
  go_ret
  exact ⟨rfl,R2.out,T2.out⟩
theorem key_no {x : Cx} {S : Nat → Prop} {p : Nat} {o : Option Addr} {n c : Nat} {L : List Nd} (ks : List Txt) (qo : Option Addr) (m qc : Nat) (hm : m ≤ 1000) (w : World) (h : RS x S p o n c L w) (hA : KArg w qo m ks) (hb : keyB ks (hd (x.at p)) = false) :
  Calls Tryz.prog 305 #[.pointer (some ⟨x.g,0,none⟩),.slice qo m qc] w fun e w' => Stops x o w e w' (x.at p) := by
 obtain ⟨m0,d,c0,e1,e2,e3⟩ := h.ts.tok
 obtain ⟨t0,t1,t2,t3⟩ := h.ts.tks p h.ts.pos
 rw [hd_at] at hb
 have hlt : x.g < w.heap.size := cell_lt' c0
 have htb : x.tb < w.heap.size := cell_lt' t0
 generalize x.tok p = t at *
 obtain ⟨⟨tk,tx,ti⟩,ta⟩ := t
 dsimp only at t0 t1 t2 t3 hb
 have H := Lib.hid (fun W (B : Bel w W) => show Stops x o w (.panicked [{ v := errV,recovered := false }]) W (x.at p) from ⟨rfl,Mod.of_bel B,p,(h.on B).ts,rfl⟩)
 clear h e1 e2 e3
 generalize p * 4 = q at *
 by_cases h4 : tk = 4
 ·subst h4
  rcases List.eq_nil_or_concat ks with rfl | ⟨ks,l,rfl⟩
  ·simp [keyB] at hb
  ·rw [List.concat_eq_append] at hA hb
   obtain ⟨rfl,b,off,rfl,hc⟩ := karg_last hA
   rw [keyB_last] at hb
   have hle : leqT tx l = true := by simpa using hb
   unfold leqT at hle
   have hbl : b < w.heap.size := cell_lt' hc
   generalize ks.length = K at *
   clear hb hA
   go_enter Tryz.func305,Tryz.ntmps305
   go_wp2_with fail
   go_quiet (fail)
   go_wp2
   exact ⟨rfl,H.out _ (by repeat (first | exact Bel.refl _ | refine Bel.drewN ?_ _ | refine Bel.alloc ?_ _))⟩
 ·have h4' : (tk == 4) = false := by simpa using h4
  have h4'' : (tk != 4) = true := by simpa using h4
  go_enter Tryz.func305,Tryz.ntmps305
  go_wp2_with fail
  go_quiet (fail)
  go_wp2
  exact ⟨rfl,H.out _ (by repeat (first | exact Bel.refl _ | refine Bel.drewN ?_ _ | refine Bel.alloc ?_ _))⟩

theorem GS.key {x : Cx} {y : Bx} {ks : List Txt} {a : Ts} {p p1 : Nat} {o o1 : Option Addr} {c c1 : Nat} {qo : Option Addr} {qc : Nat} {ko : Option Addr} {kc : Nat} {w w1 w2 w3 : World} {s : Txt} {gg cap : Nat} (h : GS x y ks a p o c qo qc ko kc w) (ok : y.Ok x) (hp : p ≤ p1)
  (r : RS x (y.T qo ko) p1 o1 (y.n + sizes a) c1 (y.L ++ flats y.n a) w1) (k : RTo x.g o w o1 w1) (B : Bel w1 w2)
  (hown : w3.ownsRow y.kb 9 1 (.slice (some ⟨gg,0,none⟩) (ks.length + 1) cap) (ks.length + 1) (encK ks ++ [.string ⟨s.toArray⟩])) (hg : w2.grownBy w3 (Value.slice qo ks.length qc).ownBlock) (hat : (Value.slice qo ks.length qc).ownBlock = some gg ∨ gg = w2.heap.size) :
  GS x y (ks ++ [s]) a p1 o1 c1 (some ⟨gg,0,none⟩) cap ko kc (w3.setCell ⟨y.bn,3,none⟩ (.slice (some ⟨gg,0,none⟩) (ks.length + 1) cap)) := by
 have f := h.far ok
 have e1 : y.bn ≠ x.g := by have := ok.ge; have := ok.xb; omega
 have e2 : y.rb ≠ x.g := by have := ok.ge; have := ok.xb; omega
 have e3 : ∀ b,y.kb ≤ b → b ≠ x.g ∧ b ≠ x.tb := fun b hb => by have := ok.xb; have := ok.kb; omega
 have hF : ∀ b,y.T qo ko b → b ≠ x.g → ¬ (b = x.g ∨ Blk o b) := fun b hb hg k => by
  rcases k with k | k
  ·exact hg k
  ·exact (h.rs.sl b hb).2 k
 have m1 : Mod (fun b => b = x.g ∨ Blk o b) w w2 := k.mod.trans (Mod.of_bel (F := fun _ => False) B) (fun _ q => q.elim)
 have m2 : Mod (fun b => Blk qo b) w2 w3 := Mod.grown hg (fun b hb => (blk_of h.keys).2 hb)
 have m3 : Mod (fun b => b = y.bn) w3 (w3.setCell ⟨y.bn,3,none⟩ (.slice (some ⟨gg,0,none⟩) (ks.length + 1) cap)) := (Mod.refl (fun b => b = y.bn) w3).setCell (p := ⟨y.bn,3,none⟩) (Or.inl rfl) _
 have hbx : NBox w2 y.bn y.k y.s y.i (.slice qo ks.length qc) (.slice ko (count a) kc) := h.box.same (m1.block _ h.box.lt (hF _ (Or.inr (Or.inl rfl)) e1))
 have hbx3 : NBox w3 y.bn y.k y.s y.i (.slice qo ks.length qc) (.slice ko (count a) kc) := hbx.same (m2.block _ hbx.lt fun q => (h.nb _ (Or.inl q)).1 rfl)
 have hpt : y.r = true → w2.cell? ⟨y.rb,0,none⟩ = some (.pointer (some ⟨x.g,0,none⟩)) := fun hr => m1.cell (h.ptr hr) (hF y.rb (Or.inr (Or.inr (Or.inl rfl))) e2)
 have hks : w2.ownsRow y.kb 3 1 (.slice ko (count a) kc) (count a) (encZ (roots y.n a)) := own_kept h.kids m1 fun b hb => hF b (Or.inr (Or.inr (Or.inr (Or.inr ((blk_of h.kids).2 hb))))) (e3 b (f.2 b ((blk_of h.kids).2 hb)).1).1
 have hblk : ∀ b,Blk (some (⟨gg,0,none⟩ : Addr)) b → b = gg := fun b ⟨_,q⟩ => by simp only [Option.some.injEq,Addr.mk.injEq] at q; exact q.1.symm
 have hgg : y.kb ≤ gg ∧ gg < w3.heap.size := hown.lt gg rfl
 have r2 := r.on B
 have hgn : gg ≠ y.bn ∧ gg ≠ y.rb := by
  rcases hat with q | q
  ·exact h.nb gg (Or.inl ((blk_of h.keys).2 q))
  ·have := hbx.lt; have := h.rl; have := m1.size; omega
 refine ⟨?_,?_,?_,?_,?_,?_,?_,?_,Nat.le_trans h.kb (Nat.le_trans m1.size (Nat.le_trans m2.size m3.size)),fun b hb => hb.elim (fun q => by rw [hblk b q]; exact hgn) (fun q => h.nb b (Or.inr q)),Nat.lt_of_lt_of_le h.rl (Nat.le_trans m1.size (Nat.le_trans m2.size m3.size))⟩
 ·have r3 : RS x (y.T (some ⟨gg,0,none⟩) ko) p1 o1 (y.n + sizes a) c1 (y.L ++ flats y.n a) w3 := by
   refine r2.rows m2 (fun b hb => Or.inr (Or.inr (Or.inr (Or.inl hb)))) (fun q => (e3 _ (f.1 _ q).1).1 rfl) (fun q => (e3 _ (f.1 _ q).1).2 rfl) (fun b hb => ?_) (fun b hb => ?_) (Or.inl ok.sg)
   ·rcases hb with q | q | q | q | q
    ·exact Or.inl (Or.inl q)
    ·exact Or.inl (Or.inr (Or.inl q))
    ·exact Or.inl (Or.inr (Or.inr (Or.inl q)))
    ·rw [hblk b q]
     rcases hat with q | q
     ·exact Or.inl (Or.inr (Or.inr (Or.inr (Or.inl ((blk_of h.keys).2 q)))))
     ·exact Or.inr (by omega)
    ·exact Or.inl (Or.inr (Or.inr (Or.inr (Or.inr q))))
   ·rcases hb with q | q | q | q | q
    ·exact Nat.lt_of_lt_of_le (r2.sl b (Or.inl q)).1 m2.size
    ·exact Nat.lt_of_lt_of_le (r2.sl b (Or.inr (Or.inl q))).1 m2.size
    ·exact Nat.lt_of_lt_of_le (r2.sl b (Or.inr (Or.inr (Or.inl q)))).1 m2.size
    ·rw [hblk b q]; exact hgg.2
    ·exact Nat.lt_of_lt_of_le (r2.sl b (Or.inr (Or.inr (Or.inr (Or.inr q))))).1 m2.size
  exact r3.mod m3 (fun b hb => Or.inr (Or.inl hb)) (fun q => e1 q.symm) (fun q => by have := ok.ge; have := ok.xb; omega)
 ·refine ⟨((h.go.mod.trans m1 fun b q => ?_).trans m2 fun b q => Or.inr ?_).trans m3 fun b q => Or.inr ?_,fun b q => ?_⟩
  ·rcases q with q | q
   ·exact Or.inl (Or.inl q)
   ·rcases h.go.at_ b q with z | z
    ·exact Or.inl (Or.inr z)
    ·exact Or.inr z
  ·have := (f.1 b q).1; have := ok.kb; omega
  ·have := ok.ge; omega
  ·rcases k.at_ b q with z | z
   ·exact h.go.at_ b z
   ·exact Or.inr (Nat.le_trans h.go.mod.size z)
 ·rw [List.length_append,List.length_singleton]
  exact hbx3.setK _
 ·exact fun hr => (World.cell?_setCell_far w3 ⟨y.bn,3,none⟩ ⟨y.rb,0,none⟩ _ (ok.ne hr)).trans (m2.cell (hpt hr) fun q => (h.nb _ (Or.inl q)).2 rfl)
 ·rw [List.length_append,List.length_singleton,show encK (ks ++ [s]) = encK ks ++ [.string ⟨s.toArray⟩] by simp [encK]]
  exact own_kept hown m3 fun b hb q => by
   have : b = gg := Option.some.inj (hb.symm.trans rfl)
   exact hgn.1 (this ▸ q)
 ·exact own_kept (own_kept hks m2 fun b hb q => h.apart b q ((blk_of h.kids).2 hb)) m3 fun b hb q => (h.nb b (Or.inr ((blk_of h.kids).2 hb))).1 q
 ·intro b hb q
  rw [hblk b hb] at q
  rcases hat with z | z
  ·exact h.apart _ ((blk_of h.keys).2 z) q
  ·have h1 := (f.2 _ q).2
   have h2 := m1.size
   omega
 ·exact Nat.le_trans h.sz hp
def KeyOk (x : Cx) (y : Bx) (ks : List Txt) (a : Ts) (p : Nat) (qo : Option Addr) (qc : Nat) (s : Txt) (e : Ending) (w1 : World) : Prop := e = .returned (.string ⟨s.toArray⟩) ∧ w1.cell? ⟨y.bn,3,none⟩ = some (.slice qo ks.length qc) ∧ w1.frozen? ⟨y.bn,3,none⟩ = false ∧ (y.r = true → w1.cell? ⟨y.rb,0,none⟩ = some (.pointer (some ⟨x.g,0,none⟩))) ∧ y.bn < w1.heap.size ∧
    Hid (∀ W',Bel w1 W' → W'.ownsRow y.kb 9 1 (.slice qo ks.length qc) ks.length (encK ks) ∧ y.kb ≤ W'.heap.size) ∧
    Hid (∀ W' w3,Bel w1 W' → W'.grownBy w3 (Value.slice qo ks.length qc).ownBlock → w3.cell? ⟨y.bn,3,none⟩ = some (.slice qo ks.length qc) ∧ w3.frozen? ⟨y.bn,3,none⟩ = false) ∧
    Hid (∀ (W' w3 : World) (gg cap : Nat),Bel w1 W' → w3.ownsRow y.kb 9 1 (.slice (some ⟨gg,0,none⟩) (ks.length + 1) cap) (ks.length + 1) (encK ks ++ [.string ⟨s.toArray⟩]) → W'.grownBy w3 (Value.slice qo ks.length qc).ownBlock → ((Value.slice qo ks.length qc).ownBlock = some gg ∨ gg = W'.heap.size) → GSt x y (ks ++ [s]) a (p + 1) (w3.setCell ⟨y.bn,3,none⟩ (.slice (some ⟨gg,0,none⟩) (ks.length + 1) cap)))
theorem key_ok {x : Cx} {y : Bx} {ks : List Txt} {a : Ts} {p : Nat} {o : Option Addr} {c : Nat} {qo : Option Addr} {qc : Nat} {ko : Option Addr} {kc : Nat} {w : World} (ok : y.Ok x) (h : GS x y ks a p o c qo qc ko kc w) (hk : ks.length ≤ 1000) (W : World) (B : Bel w W) (hb : keyB ks (hd (x.at p)) = true) : Calls Tryz.prog 305 #[.pointer (some ⟨x.g,0,none⟩),.slice qo ks.length qc] W (KeyOk x y ks a p qo qc (hd (x.at p)).2.1) := by
 refine (key_yes ks qo ks.length qc hk W (h.rs.on B) ((own_karg h.keys).on B) hb).mono fun e w1 k => ?_
 obtain ⟨rfl,r1,t1⟩ := k
 have t0 := (RTo.of_bel (g := x.g) (o := o) B).trans t1
 have q1 : ¬ (y.bn = x.g ∨ Blk o y.bn) := fun q => by
  rcases q with q | q
  ·have := ok.ge; have := ok.xb; omega
  ·exact (h.rs.sl _ (Or.inr (Or.inl rfl))).2 q
 have q2 : ¬ (y.rb = x.g ∨ Blk o y.rb) := fun q => by
  rcases q with q | q
  ·have := ok.ge; have := ok.xb; omega
  ·exact (h.rs.sl _ (Or.inr (Or.inr (Or.inl rfl)))).2 q
 have nb := h.box.same (t0.mod.block _ h.box.lt q1)
 have ff := h.far ok
 have hk1 : w1.ownsRow y.kb 9 1 (.slice qo ks.length qc) ks.length (encK ks) := own_kept h.keys t0.mod fun b hb q => by
  rcases q with q | q
  ·have := (ff.1 b ((blk_of h.keys).2 hb)).1; have := ok.xb; have := ok.kb; omega
  ·exact (h.rs.sl b (Or.inr (Or.inr (Or.inr (Or.inl ((blk_of h.keys).2 hb)))))).2 q
 refine ⟨rfl,nb.ks,nb.fz 3,fun hr => t0.mod.cell (h.ptr hr) q2,nb.lt,Lib.hid fun W' g => ⟨own_belz hk1 g,?_⟩,Lib.hid fun W' w3 g hgr => ?_,Lib.hid fun W' w3 gg cap g hown hgr hat => ⟨_,_,_,_,_,_,h.key ok (Nat.le_succ p) r1 t0 g hown hgr hat⟩⟩
 ·have := h.kb; have := t0.mod.size; have := g.size; omega
 ·have hne : some y.bn ≠ (Value.slice qo ks.length qc).ownBlock := fun e => by
   exact (h.nb y.bn (Or.inl ((blk_of h.keys).2 e.symm))).1 rfl
  have hlt : y.bn < W'.heap.size := Nat.lt_of_lt_of_le nb.lt g.size
  exact ⟨(hgr.cell_far ⟨y.bn,3,none⟩ hlt hne).trans (g.cell' nb.ks),(hgr.frozen_far ⟨y.bn,3,none⟩ hlt hne).trans ((nb.same (g.block _ nb.lt)).fz 3)⟩
theorem key_bad {x : Cx} {y : Bx} {ks : List Txt} {a : Ts} {p : Nat} {o : Option Addr} {c : Nat} {qo : Option Addr} {qc : Nat} {ko : Option Addr} {kc : Nat} {w : World} (h : GS x y ks a p o c qo qc ko kc w) (hk : ks.length ≤ 1000) (W : World) (B : Bel w W) (hb : keyB ks (hd (x.at p)) = false) : Calls Tryz.prog 305 #[.pointer (some ⟨x.g,0,none⟩),.slice qo ks.length qc] W fun e w' => e = .panicked [{ v := errV,recovered := false }] ∧ Hid (GPn x y e w' (x.at p)) :=
 (key_no ks qo ks.length qc hk W (h.rs.on B) ((own_karg h.keys).on B) hb).mono fun e w' (k : Stops x o W e w' (x.at p)) => ⟨k.1,Lib.hid (Stops.from (h.go.bel B) k)⟩

def gP (f : Nat) (q : List Txt × Ts) (r : List Ck) : RR (List Txt × Ts) :=
 if keyB q.1 (hd r) then
  if isT [58] (hd r.tail) then
   match rdE f 1 r.tail.tail with
   | .ok t r' => .ok (q.1 ++ [(hd r).2.1],snoc q.2 t) r'
   | .bad r' => .bad r'
  else .bad r.tail
 else .bad r
def PSt (x : Cx) (y : Bx) (q : List Txt × Ts) (p : Nat) (w : World) : Prop := GSt x y q.1 q.2 p w ∧ q.1.length ≤ p
theorem pst_keeps (x : Cx) (y : Bx) (ok : y.Ok x) : Keeps x (PSt x y) (GPn x y) := by
 rintro a p w ⟨h,hl⟩
 obtain ⟨S,o,n,c,L,h1,h2,h3⟩ := gst_keeps x y a.1 ok a.2 p w h
 exact ⟨S,o,n,c,L,h1,fun p' w' r t hp => ⟨h2 p' w' r t hp,Nat.le_trans hl hp⟩,h3⟩
theorem gP_k {f : Nat} {q : List Txt × Ts} {r : List Ck} (h : keyB q.1 (hd r) = false) : gP f q r = .bad r := if_neg (by rw [h]; decide)
theorem gP_c {f : Nat} {q : List Txt × Ts} {r : List Ck} (h : keyB q.1 (hd r) = true) (h2 : isT [58] (hd r.tail) = false) : gP f q r = .bad r.tail := by rw [gP,if_pos h,if_neg (by rw [h2]; decide)]
theorem gP_b {f : Nat} {q : List Txt × Ts} {r r' : List Ck} (h : keyB q.1 (hd r) = true) (h2 : isT [58] (hd r.tail) = true) (h3 : rdE f 1 r.tail.tail = .bad r') : gP f q r = .bad r' := by rw [gP,if_pos h,if_pos h2,h3]
theorem gP_o {f : Nat} {q : List Txt × Ts} {r r' : List Ck} {t : T} (h : keyB q.1 (hd r) = true) (h2 : isT [58] (hd r.tail) = true) (h3 : rdE f 1 r.tail.tail = .ok t r') : gP f q r = .ok (q.1 ++ [(hd r).2.1],snoc q.2 t) r' := by rw [gP,if_pos h,if_pos h2,h3]
theorem pair_any {x : Cx} {y : Bx} (hyr : y.r = true) (ok : y.Ok x) (f : Nat) (q : List Txt × Ts) (p : Nat) (w : World) (h : PSt x y q p w) (hE : ∀ p',p ≤ p' → Lv x 261 1 11 p') (hf : 20 * (x.T.length - p) + 11 ≤ f) :
  Calls Tryz.prog 304 #[.pointer (some ⟨y.bn,0,none⟩),.pointer (some ⟨y.rb,0,none⟩)] w (IPost x (PSt x y) (GPn x y) p (gP f q (x.at p))) := by
 obtain ⟨ks,a⟩ := q
 obtain ⟨⟨o,c,qo,qc,ko,kc,h⟩,hl⟩ := h
 dsimp only at h hl
 have hp1k := Nat.le_trans h.rs.ts.pos h.rs.ts.len
 have hkl : ks.length ≤ 1000 := Nat.le_trans hl hp1k
 have c3 := h.box.ks
 have f3 := h.box.fz 3
 have cp := h.ptr hyr
 have hbn : y.bn < w.heap.size := h.box.lt
 have hrb : y.rb < w.heap.size := cell_lt' cp
 cases hb : keyB ks (hd (x.at p)) with
 | false =>
  have HC2 := Lib.hid (key_bad h hkl w.drew (Below.drew (Bel.refl w)) hb)
  rw [gP_k (q := (ks,a)) hb]
  clear h ok hE hb
  go_enter Tryz.func304,Tryz.ntmps304
  go_upto_region 0 with (fail)
  refine wp_region_held_drew (S := fun W => W.cell? ⟨y.bn,3,none⟩ = some (.slice qo ks.length qc) ∧ W.cell? ⟨y.rb,0,none⟩ = some (.pointer (some ⟨x.g,0,none⟩))) (by kernel_rfl) ⟨c3,cp⟩ (fun hH => ?_)
  refine wpAnyH_take (i := 0) (v := ?_) rfl (by kernel_rfl) (by kernel_rfl) (by kernel_rfl) (fun _ _ _ h => h) (Or.inl ⟨by rfl,?_⟩) (by assumption) ?_
  rotate_left 1
  ·intro w hSw
   go_simp
   with_reducible rfl
  refine wpAnyH_take (i := 1) (v := ?_) rfl (by kernel_rfl) (by kernel_rfl) (by kernel_rfl) (fun _ _ _ h => h) (Or.inl ⟨by rfl,?_⟩) (by assumption) ?_
  rotate_left 1
  ·intro w hSw
   have q := hSw.1
   go_simp
   with_reducible rfl
  refine wpAnyH_take (i := 2) (v := ?_) rfl (by kernel_rfl) (by kernel_rfl) (by kernel_rfl) (fun _ _ _ h => h) (Or.inl ⟨by rfl,?_⟩) (by assumption) ?_
  rotate_left 1
  ·intro w hSw
   have q := hSw.2
   go_simp
   with_reducible rfl
  refine wpAnyH_take (i := 3) (v := ?_) rfl (by kernel_rfl) (by kernel_rfl) (by kernel_rfl) (fun _ _ _ h => h) (Or.inl ⟨by rfl,?_⟩) (by assumption) ?_
  rotate_left 1
  ·intro w hSw
   go_simp
   with_reducible rfl
  refine wpAnyH_take (i := 4) (v := ?_) rfl (by kernel_rfl) (by kernel_rfl) (by kernel_rfl) (fun _ _ _ h => h) (Or.inl ⟨by rfl,?_⟩) (by assumption) ?_
  rotate_left 1
  ·intro w hSw
   have q := hSw.1
   go_simp
   with_reducible rfl
  refine wpAnyH_ready (rs := [5]) (by kernel_rfl) (by simp) ?_
  refine AllReadyH.cons rfl (fun K hK => ?_) AllReadyH.nil
  go_simp
  refine HC2.out.mono ?_
  rintro e w2 ⟨rfl,hS⟩
  exact ⟨rfl,hS.out⟩
 | true =>
  obtain ⟨i1,hi1,hy0,hy1,hy2⟩ := info_parts info_str
  have Hi1 := Lib.hid hi1
  have Hy0 := Lib.hid hy0
  have Hy1 := Lib.hid hy1
  have Hy2 := Lib.hid hy2
  have HC1 := Lib.hid (key_ok ok h hkl w.drew (Below.drew (Bel.refl w)) hb)
  have hlt := kind_lt (k := 4) (by unfold keyB at hb; rw [Bool.and_eq_true] at hb; exact eq_of_beq hb.1 : (hd (x.at p)).1 = 4) (by decide)
  have Hb := Lib.hid hb
  have Hok := Lib.hid ok
  have HEE := Lib.hid hE
  obtain ⟨s,hs⟩ : ∃ s,(hd (x.at p)).2.1 = s := ⟨_,rfl⟩
  have Hs := Lib.hid hs
  rw [hs] at HC1
  obtain ⟨X,hX⟩ : ∃ X,gP f (ks,a) (x.at p) = X := ⟨_,rfl⟩
  have HX := Lib.hid hX
  rw [hX]
  have nml : Hid (ks.length + 1 ≤ maxLen) := Lib.hid (by unfold maxLen; omega)
  have nml2 : Hid ((ks.length + 1) * 16 ≤ 140737488355328) := Lib.hid (by omega)
  have nnw : Hid (∀ W' W'' : World,W''.heap[W'.heap.size]? = some (.cells #[.string ⟨s.toArray⟩] 9) → ∀ j u,[Value.string ⟨s.toArray⟩][j]? = some u → W''.cell? ((⟨W'.heap.size,0,none⟩ : Addr).add j) = some u) := Lib.hid fun W' W'' hW' => World.news_of_block (cs := #[.string ⟨s.toArray⟩]) (t := 9) (fr := (0,0)) hW'
  clear h ok hE hb hs hX
  go_enter Tryz.func304,Tryz.ntmps304
  go_upto_region 0 with (fail)
  go_cut [] (fun wx => Hid (GSt x y (ks ++ [s]) a (p + 1) wx))
  case first =>
   go_region_law (first | (refine step_append_lies _ (by rfl) _ _ _ (by rfl) y.kb 9 i1 _ 1 16 Tryz.underlying44 Hi1.out Hy0.out Hy1.out Hy2.out rfl (by omega) _ _ _ (by rfl) (hK1.out _ (by repeat (first | exact Bel.refl _ | refine Below.drew ?_ | refine Bel.alloc ?_ _))).1 ⟨w2.heap.size,0,none⟩ 1 1 [.string ⟨s.toArray⟩] (by rfl) (by rfl) (nnw.out w2 _ (heap_new w2 _)) (by simp [Value.oneCell']) (by omega) nml.out nml2.out (hK1.out _ (by repeat (first | exact Bel.refl _ | refine Below.drew ?_ | refine Bel.alloc ?_ _))).2 _ rfl ?_; intro gg cap w3 hown3 hgrow hat hlt; obtain ⟨d5,g5⟩ := hK2.out _ w3 (by repeat (first | exact Bel.refl _ | refine Below.drew ?_ | refine Bel.alloc ?_ _)) hgrow) | (go_simp; go_at_call 305; (with_reducible refine HC1.out.mono ?_); rintro e w2 ⟨rfl,d4,g4,dp',hb2,hK1,hK2,hK3⟩; have dp := dp' hyr))
   all_goals
    have k1 := hK3.out _ w3 gg cap (by repeat (first | exact Bel.refl _ | refine Below.drew ?_ | refine Bel.alloc ?_ _)) hown3 hgrow hat
    go_wp2_with fail
    go_meet
    exact Lib.hid k1
  case rest =>
   obtain ⟨o1,c1,qo1,qc1,ko1,kc1,g1⟩ := hcut.out
   have d1 := g1.ptr hyr
   have Hg := Lib.hid g1
   clear c3 f3 cp hbn hrb HC1 nml nml2 nnw hcut
   cases h58 : isT [58] (hd (x.at (p + 1))) with
   | false =>
    have HE := Lib.hid (expect_no [58] wc g1.rs h58)
    have hz : Hid (X = .bad (x.at (p + 1))) := Lib.hid (by rw [← HX.out,gP_c (q := (ks,a)) Hb.out (by rw [tail_at]; exact h58),tail_at])
    clear g1 h58
    go_wp2_with fail
    refine HE.out.mono ?_
    intro e w4 h4
    have h5 : GPn x y e w4 (x.at (p + 1)) := Stops.from Hg.out.go h4
    obtain ⟨rfl,H5⟩ := h5
    have H5c := Lib.hid H5
    clear h4 H5
    go_wp2_with fail
    rw [hz.out]
    exact ⟨rfl,rfl,H5c.out⟩
   | true =>
    have HE := Lib.hid (expect_yes [58] wc g1.rs h58)
    have h58' := Lib.hid h58
    clear g1 h58
    go_wp2_with fail
    refine HE.out.mono ?_
    rintro e w4 ⟨rfl,r4,t4⟩
    have h4 := Hg.out.step Hok.out t4 r4 (Nat.le_succ _)
    have ok := Hok.out
    have hE := HEE.out (p + 2) (by omega)
    have hf4 : 20 * (x.T.length - (p + 2)) + 11 ≤ f := by omega
    have c4 := h4.box.js
    have f4 := h4.box.fz 4
    have cp := h4.ptr hyr
    have hbn : y.bn < w4.heap.size := h4.box.lt
    have hrb : y.rb < w4.heap.size := cell_lt' cp
    have hlen : (ks ++ [s]).length ≤ p + 1 := by rw [List.length_append,List.length_singleton]; omega
    clear r4 t4 d1 HE
    cases hg : rdE f 1 (x.at (p + 2)) with
    | bad r =>
     have HC2 := Lib.hid (kid_bad ok h4 (hE f hf4) hg)
     have hz : Hid (X = .bad r) := Lib.hid (by rw [← HX.out,gP_b (q := (ks,a)) Hb.out (by rw [tail_at]; exact h58'.out) (by rw [tail_at,tail_at]; exact hg)])
     clear h4 ok hE hg
     go_upto_region 2 with (fail)
     refine wp_region_held_drew (S := fun W => W.cell? ⟨y.bn,4,none⟩ = some (.slice ko1 (count a) kc1) ∧ W.cell? ⟨y.rb,0,none⟩ = some (.pointer (some ⟨x.g,0,none⟩))) (by kernel_rfl) ⟨c4,cp⟩ (fun hH => ?_)
     refine wpAnyH_take (i := 0) (v := ?_) rfl (by kernel_rfl) (by kernel_rfl) (by kernel_rfl) (fun _ _ _ h => h) (Or.inl ⟨by rfl,?_⟩) (by assumption) ?_
     rotate_left 1
     ·intro w hSw
      go_simp
      with_reducible rfl
     refine wpAnyH_take (i := 1) (v := ?_) rfl (by kernel_rfl) (by kernel_rfl) (by kernel_rfl) (fun _ _ _ h => h) (Or.inl ⟨by rfl,?_⟩) (by assumption) ?_
     rotate_left 1
     ·intro w hSw
      have q := hSw.1
      go_simp
      with_reducible rfl
     refine wpAnyH_take (i := 2) (v := ?_) rfl (by kernel_rfl) (by kernel_rfl) (by kernel_rfl) (fun _ _ _ h => h) (Or.inl ⟨by rfl,?_⟩) (by assumption) ?_
     rotate_left 1
     ·intro w hSw
      have q := hSw.2
      go_simp
      with_reducible rfl
     refine wpAnyH_ready (rs := [3]) (by kernel_rfl) (by simp) ?_
     refine AllReadyH.cons rfl (fun K hK => ?_) AllReadyH.nil
     go_simp
     refine HC2.out.mono ?_
     rintro e w2 ⟨rfl,hS⟩
     rw [hz.out]
     exact ⟨rfl,hS.out⟩
    | ok t r =>
     obtain ⟨i0,hi0,hz0,hz1,hz2⟩ := info_parts info_int
     have Hi0 := Lib.hid hi0
     have Hz0 := Lib.hid hz0
     have Hz1 := Lib.hid hz1
     have Hz2 := Lib.hid hz2
     have hsm : count a ≤ 1000 := by have := sizes_le a; have := h4.rs.np; have := h4.rs.ts.pos; have := h4.rs.ts.len; omega
     have HC2 := Lib.hid (kid_ok ok h4 (hE f hf4) hg)
     have hz : Hid (X = .ok (ks ++ [s],snoc a t) r) := Lib.hid (by rw [← HX.out,gP_o (q := (ks,a)) Hb.out (by rw [tail_at]; exact h58'.out) (by rw [tail_at,tail_at]; exact hg),Hs.out])
     have hml : Hid (count a + 1 ≤ maxLen) := Lib.hid (by unfold maxLen; omega)
     have hml2 : Hid ((count a + 1) * 8 ≤ 140737488355328) := Lib.hid (by omega)
     have hnw : Hid (∀ W' W'' : World,W''.heap[W'.heap.size]? = some (.cells #[.int .i64 ((y.n : Int) + (sizes a : Int) + (size t : Int) - 1)] 3) → ∀ j u,[.int .i64 ((y.n : Int) + (sizes a : Int) + (size t : Int) - 1)][j]? = some u → W''.cell? ((⟨W'.heap.size,0,none⟩ : Addr).add j) = some u) := Lib.hid fun W' W'' hW' => World.news_of_block (cs := #[.int .i64 ((y.n : Int) + (sizes a : Int) + (size t : Int) - 1)]) (t := 3) (fr := (0,0)) hW'
     clear hE hg h4 ok
     go_upto_region 2 with (fail)
     go_region_law (first | (refine step_append_lies _ (by rfl) _ _ _ (by rfl) y.kb 3 i0 _ 1 8 Tryz.underlying38 Hi0.out Hz0.out Hz1.out Hz2.out rfl (by omega) _ _ _ (by rfl) (hK1.out _ (by repeat (first | exact Bel.refl _ | refine Below.drew ?_ | refine Bel.alloc ?_ _))).1 ⟨w2.heap.size,0,none⟩ 1 1 [.int .i64 ((y.n : Int) + (sizes a : Int) + (size t : Int) - 1)] (by rfl) (by rfl) (hnw.out w2 _ (heap_new w2 _)) (by simp [Value.oneCell']) (by omega) hml.out hml2.out (hK1.out _ (by repeat (first | exact Bel.refl _ | refine Below.drew ?_ | refine Bel.alloc ?_ _))).2 _ rfl ?_; intro gg cap w3 hown3 hgrow hat hlt; obtain ⟨d5,g5⟩ := hK2.out _ w3 (by repeat (first | exact Bel.refl _ | refine Below.drew ?_ | refine Bel.alloc ?_ _)) hgrow) | (go_simp; go_at_call 261; (with_reducible refine HC2.out.mono ?_); rintro e w2 ⟨rfl,d4,g4,dp',hb2,hK1,hK2,hK3⟩; have dp := dp' hyr))
     all_goals
      obtain ⟨p1,k1,k2,k3⟩ := hK3.out _ w3 gg cap (by repeat (first | exact Bel.refl _ | refine Below.drew ?_ | refine Bel.alloc ?_ _)) hown3 hgrow hat
      subst k2
      first | (refine bodyPost_end (results_none rfl _ _ _) rfl ?_) | (refine bodyPost_ret (results_none rfl _ _ _) rfl ?_)
      rw [hz.out]
      exact IPost.mk (St := PSt x y) (a := (ks ++ [s],snoc a t)) ⟨k1,Nat.le_trans hlen (by omega)⟩ (by omega)
end Syn
end Go.Proofs.YtcapkeaedpabjaaGreatDoor
