/-
  Layer 8, texts merged: SzI, SzJ, SzK, SynD, SzL, SynC. For every argument within the bounds that each theorem names.
-/
import Derived.Test.YtcapkeaedpabjaaGreatDoorWF1
import Derived.Test.YtcapkeaedpabjaaGreatDoorWC1

/-
 Layer 8: the parameters of a function, as the program reads them. Written by tools/genSzI.py.
-/
namespace Go.Proofs.YtcapkeaedpabjaaGreatDoor
open Go.RowKit Go.ChangeShapes Go.WideShapes
namespace Syn

/-- A function in a box of its own. -/
structure FBox (w : World) (b : Nat) (s ps j : Value) : Prop where
 s : w.cell? ⟨b, 0, none⟩ = some s
 ps : w.cell? ⟨b, 1, none⟩ = some ps
 j : w.cell? ⟨b, 2, none⟩ = some j
 fz : ∀ j, w.frozen? ⟨b, j, none⟩ = false
theorem FBox.same {w w' : World} {b : Nat} {s ps j : Value} (h : FBox w b s ps j) (e : w'.heap[b]? = w.heap[b]?) : FBox w' b s ps j :=
 ⟨(World.cell?_of_block (a := ⟨b, 0, none⟩) e).trans h.s, (World.cell?_of_block (a := ⟨b, 1, none⟩) e).trans h.ps, (World.cell?_of_block (a := ⟨b, 2, none⟩) e).trans h.j, fun j => (World.frozen?_of_block (a := ⟨b, j, none⟩) e).trans (h.fz j)⟩
theorem FBox.lt {w : World} {b : Nat} {s ps j : Value} (h : FBox w b s ps j) : b < w.heap.size := cell_lt' h.s
theorem FBox.setP {w : World} {b : Nat} {s ps j : Value} (h : FBox w b s ps j) (v : Value) : FBox (w.setCell ⟨b, 1, none⟩ v) b s v j :=
 ⟨(World.cell?_setCell_other w ⟨b, 1, none⟩ ⟨b, 0, none⟩ v (by simp)).trans h.s, World.cell?_setCell_same w _ _ h.ps, (World.cell?_setCell_other w ⟨b, 1, none⟩ ⟨b, 2, none⟩ v (by simp)).trans h.j, fun j => by rw [World.frozen?_setCell]; exact h.fz j⟩
theorem FBox.new (w : World) (s ps j : Value) (t : TypeId) : FBox (w.alloc (.cells #[s, ps, j] t)) w.heap.size s ps j :=
 ⟨World.cell?_alloc_new .., World.cell?_alloc_new .., World.cell?_alloc_new .., fun _ => World.frozen?_alloc_new _ _ _ _⟩
/-- Where a function's head is read: its box, the box of the reader's pointer, the box of the result. -/
structure Fx where
 S : Nat → Prop
 n : Nat
 o : Option Addr
 L : List Nd
 w : World
 fb : Nat
 rb : Nat
 rv : Nat
 kb : Nat
 s : Txt
def Fx.T (y : Fx) (qo : Option Addr) (b : Nat) : Prop := y.S b ∨ (b = y.fb ∨ b = y.rb ∨ b = y.rv) ∨ Blk qo b
structure Fx.Ok (x : Cx) (y : Fx) : Prop where
 ne : y.fb ≠ y.rb ∧ y.fb ≠ y.rv
 kb : y.w.heap.size ≤ y.kb
 ge : y.w.heap.size ≤ y.fb ∧ y.w.heap.size ≤ y.rb ∧ y.w.heap.size ≤ y.rv
 xb : x.g < x.base ∧ x.tb < x.base ∧ x.base ≤ y.w.heap.size
 sg : y.S x.g
 sl : ∀ b, y.S b → b < y.w.heap.size
structure HS (x : Cx) (y : Fx) (ks : List Txt) (p : Nat) (c : Nat) (qo : Option Addr) (qc : Nat) (w : World) : Prop where
 rs : RS x (y.T qo) p y.o y.n c y.L w
 go : RTo x.g y.o y.w y.o w
 box : FBox w y.fb (.string ⟨y.s.toArray⟩) (.slice qo ks.length qc) (.int .i64 0)
 res : FBox w y.rv (.string ⟨#[]⟩) (.slice none 0 0) (.int .i64 0)
 ptr : w.cell? ⟨y.rb, 0, none⟩ = some (.pointer (some ⟨x.g, 0, none⟩))
 keys : w.ownsRow y.kb 9 1 (.slice qo ks.length qc) ks.length (encK ks)
 kb : y.kb ≤ w.heap.size
 nb : ∀ b, Blk qo b → b ≠ y.fb ∧ b ≠ y.rb ∧ b ≠ y.rv
theorem HS.off {x : Cx} {y : Fx} {ks : List Txt} {p : Nat} {c : Nat} {qo : Option Addr} {qc : Nat} {w : World} (h : HS x y ks p c qo qc w) (ok : y.Ok x) : ∀ b, y.T qo b → y.w.heap.size ≤ b → ¬ (b = x.g ∨ Blk y.o b) := fun b hb hg k => by
 rcases k with k | k
 ·have := ok.xb; omega
 ·exact (h.rs.sl b hb).2 k
theorem HS.step {x : Cx} {y : Fx} {ks : List Txt} {p p' : Nat} {c : Nat} {qo : Option Addr} {qc : Nat} {w w' : World} (h : HS x y ks p c qo qc w) (ok : y.Ok x) (t : RTo x.g y.o w y.o w') (hR : RS x (y.T qo) p' y.o y.n c y.L w') : HS x y ks p' c qo qc w' := by
 have f := h.off ok
 exact ⟨hR, h.go.trans t, h.box.same (t.mod.block _ h.box.lt (f _ (Or.inr (Or.inl (Or.inl rfl))) ok.ge.1)), h.res.same (t.mod.block _ h.res.lt (f _ (Or.inr (Or.inl (Or.inr (Or.inr rfl)))) ok.ge.2.2)), t.mod.cell h.ptr (f y.rb (Or.inr (Or.inl (Or.inr (Or.inl rfl)))) ok.ge.2.1), own_kept h.keys t.mod fun b hb => f b (Or.inr (Or.inr ((blk_of h.keys).2 hb))) (Nat.le_trans ok.kb (h.keys.lt b hb).1), Nat.le_trans h.kb t.mod.size, h.nb⟩
/-- Another parameter. -/
theorem HS.key {x : Cx} {y : Fx} {ks : List Txt} {p p1 : Nat} {c : Nat} {qo : Option Addr} {qc : Nat} {w w1 w2 w3 : World} {s : Txt} {gg cap : Nat} (h0 : HS x y ks p c qo qc w) (ok : y.Ok x)
  (r : RS x (y.T qo) p1 y.o y.n c y.L w1) (k : RTo x.g y.o w y.o w1) (B : Bel w1 w2)
  (hown : w3.ownsRow y.kb 9 1 (.slice (some ⟨gg, 0, none⟩) (ks.length + 1) cap) (ks.length + 1) (encK ks ++ [.string ⟨s.toArray⟩])) (hg : w2.grownBy w3 (Value.slice qo ks.length qc).ownBlock) (hat : (Value.slice qo ks.length qc).ownBlock = some gg ∨ gg = w2.heap.size) :
  HS x y (ks ++ [s]) p1 c (some ⟨gg, 0, none⟩) cap (w3.setCell ⟨y.fb, 1, none⟩ (.slice (some ⟨gg, 0, none⟩) (ks.length + 1) cap)) := by
 have h := h0.step ok (k.bel B) (r.on B)
 have kb : ∀ b, Blk qo b → y.kb ≤ b ∧ b < w2.heap.size := fun b hb => h.keys.lt b ((blk_of h.keys).1 hb)
 have m2 : Mod (fun b => Blk qo b) w2 w3 := Mod.grown hg (fun b hb => (blk_of h.keys).2 hb)
 have m3 : Mod (fun b => b = y.fb) w3 (w3.setCell ⟨y.fb, 1, none⟩ (.slice (some ⟨gg, 0, none⟩) (ks.length + 1) cap)) := (Mod.refl (fun b => b = y.fb) w3).setCell (p := ⟨y.fb, 1, none⟩) (Or.inl rfl) _
 have hblk : ∀ b, Blk (some (⟨gg, 0, none⟩ : Addr)) b → b = gg := fun b ⟨_, q⟩ => by simp only [Option.some.injEq, Addr.mk.injEq] at q; exact q.1.symm
 have hgg : y.kb ≤ gg ∧ gg < w3.heap.size := hown.lt gg rfl
 have hgn : gg ≠ y.fb ∧ gg ≠ y.rb ∧ gg ≠ y.rv := by
  rcases hat with q | q
  ·exact h.nb gg ((blk_of h.keys).2 q)
  ·have := h.box.lt; have : y.rb < w2.heap.size := cell_lt' h.ptr; have := h.res.lt; omega
 have hx : x.g < y.w.heap.size ∧ x.tb < y.w.heap.size := by have := ok.xb; omega
 have r3 : RS x (y.T (some ⟨gg, 0, none⟩)) p1 y.o y.n c y.L w3 := by
  refine h.rs.rows m2 (fun b hb => Or.inr (Or.inr hb)) (fun q => by have := (kb _ q).1; have := ok.kb; omega) (fun q => by have := (kb _ q).1; have := ok.kb; omega) (fun b hb => ?_) (fun b hb => ?_) (Or.inl ok.sg)
  ·rcases hb with q | q | q
   ·exact Or.inl (Or.inl q)
   ·exact Or.inl (Or.inr (Or.inl q))
   ·rw [hblk b q]
    rcases hat with q | q
    ·exact Or.inl (Or.inr (Or.inr ((blk_of h.keys).2 q)))
    ·exact Or.inr (by omega)
  ·rcases hb with q | q | q
   ·exact Nat.lt_of_lt_of_le (h.rs.sl b (Or.inl q)).1 m2.size
   ·exact Nat.lt_of_lt_of_le (h.rs.sl b (Or.inr (Or.inl q))).1 m2.size
   ·rw [hblk b q]; exact hgg.2
 refine ⟨r3.mod m3 (fun b hb => Or.inr (Or.inl (Or.inl hb))) (fun q => by have := ok.ge; omega) (fun q => by have := ok.ge; omega), ?_, ?_, ?_, ?_, ?_, ?_, ?_⟩
 ·exact ⟨(h.go.mod.trans m2 fun b q => Or.inr (by have := (kb b q).1; have := ok.kb; omega)).trans m3 fun b q => Or.inr (by have := ok.ge; omega), h.go.at_⟩
 ·rw [List.length_append, List.length_singleton]
  exact (h.box.same (m2.block _ h.box.lt fun q => (h.nb _ q).1 rfl)).setP _
 ·have h1 := h.res.same (m2.block _ h.res.lt fun q => (h.nb _ q).2.2 rfl)
  exact h1.same (m3.block _ h1.lt fun q => ok.ne.2 q.symm)
 ·exact (World.cell?_setCell_far w3 ⟨y.fb, 1, none⟩ ⟨y.rb, 0, none⟩ _ ok.ne.1).trans (m2.cell h.ptr fun q => (h.nb _ q).2.1 rfl)
 ·rw [List.length_append, List.length_singleton, show encK (ks ++ [s]) = encK ks ++ [.string ⟨s.toArray⟩] by simp [encK]]
  exact own_kept hown m3 fun b hb q => by
   have : b = gg := Option.some.inj (hb.symm.trans rfl)
   exact hgn.1 (this ▸ q)
 ·exact Nat.le_trans h.kb (Nat.le_trans m2.size m3.size)
 ·exact fun b hb => by rw [hblk b hb]; exact hgn
def HSt (x : Cx) (y : Fx) (ks : List Txt) (p : Nat) (w : World) : Prop := (∃ c qo qc, HS x y ks p c qo qc w) ∧ ks.length ≤ p
end Syn
end Go.Proofs.YtcapkeaedpabjaaGreatDoor

/-
 Layer 8: function, as the program has it.
-/
namespace Go.Proofs.YtcapkeaedpabjaaGreatDoor
open Go.RowKit Go.ChangeShapes Go.WideShapes
namespace Syn

end Syn
end Go.Proofs.YtcapkeaedpabjaaGreatDoor

/-
 Layer 8: rows of functions; program, as the program has it.
-/
namespace Go.Proofs.YtcapkeaedpabjaaGreatDoor
open Go.RowKit Go.ChangeShapes Go.WideShapes
namespace Syn

/-- A function of a program, as its fields are. -/
structure Fw where
 name : Txt
 params : List Txt
 body : Int
deriving DecidableEq
def sizeF : List Fu → Nat
 | [] => 0
 | f :: r => size f.body + sizeF r
/-- The row of nodes of functions. -/
def flatF : Nat → List Fu → List Nd
 | _, [] => []
 | b, f :: r => flat b f.body ++ flatF (b + size f.body) r
def funcF : Nat → List Fu → List Fw
 | _, [] => []
 | b, f :: r => ⟨f.name, f.params, ((b + size f.body - 1 : Nat) : Int)⟩ :: funcF (b + size f.body) r
theorem sizeF_app : ∀ (a b : List Fu), sizeF (a ++ b) = sizeF a + sizeF b
 | [], b => by rw [List.nil_append, sizeF, Nat.zero_add]
 | f :: r, b => by rw [List.cons_append, sizeF, sizeF, sizeF_app r, Nat.add_assoc]
theorem flatF_app : ∀ (a b : List Fu) (n : Nat), flatF n (a ++ b) = flatF n a ++ flatF (n + sizeF a) b
 | [], b, n => by rw [List.nil_append, sizeF, flatF, List.nil_append, Nat.add_zero]
 | f :: r, b, n => by rw [List.cons_append, flatF, flatF, flatF_app r, sizeF, List.append_assoc, Nat.add_assoc]
theorem funcF_app : ∀ (a b : List Fu) (n : Nat), funcF n (a ++ b) = funcF n a ++ funcF (n + sizeF a) b
 | [], b, n => by rw [List.nil_append, sizeF, funcF, List.nil_append, Nat.add_zero]
 | f :: r, b, n => by rw [List.cons_append, funcF, funcF, funcF_app r, sizeF, List.cons_append, Nat.add_assoc]
theorem funcF_len : ∀ (a : List Fu) (n : Nat), (funcF n a).length = a.length
 | [], _ => rfl
 | f :: r, n => by rw [funcF, List.length_cons, funcF_len r, List.length_cons]
theorem flatF_len : ∀ (a : List Fu) (n : Nat), (flatF n a).length = sizeF a
 | [], _ => rfl
 | f :: r, n => by rw [flatF, List.length_append, flat_len, flatF_len r, sizeF]
structure Fv where
 s : Txt
 po : Option Addr
 k : Nat
 pc : Nat
 j : Int
def encF (v : Fv) : List Value := [.string ⟨v.s.toArray⟩, .slice v.po v.k v.pc, .int .i64 v.j]
def encFs (l : List Fv) : List Value := l.flatMap encF
theorem encF_len (v : Fv) : (encF v).length = 3 := rfl
theorem encFs_len (l : List Fv) : (encFs l).length = l.length * 3 := by
 induction l with
 | nil => rfl
 | cons c r ih =>
  show (encF c ++ encFs r).length = _
  rw [List.length_append, ih, encF_len, List.length_cons]
  omega
theorem encFs_app (a b : List Fv) : encFs (a ++ b) = encFs a ++ encFs b := by simp [encFs]
theorem encFs_one (c : Fv) : encFs [c] = encF c := by simp [encFs]
theorem encFs_get {l : List Fv} {i j : Nat} (h : i < l.length) (hj : j < 3) : (encFs l)[i * 3 + j]? = (encF l[i])[j]? := by
 have e : encFs l = encFs (l.take i) ++ (encF l[i] ++ encFs (l.drop (i + 1))) := by
  rw [← encFs_one l[i], ← encFs_app, ← encFs_app]
  congr 1
  rw [List.singleton_append, ← List.drop_eq_getElem_cons h, List.take_append_drop]
 have hl : (encFs (l.take i)).length = i * 3 := by rw [encFs_len, List.length_take, Nat.min_eq_left (by omega)]
 rw [e, List.getElem?_append_right (by omega), hl, List.getElem?_append_left (by rw [encF_len]; omega)]
 congr 1
 omega
structure FFit (w : World) (v : Fv) (x : Fw) : Prop where
 s : v.s = x.name
 j : v.j = x.body
 ps : KArg w v.po v.k x.params
 pc : v.k ≤ v.pc
 pl : 0 < v.k → ∀ a, v.po = some a → ∃ b off, a = ⟨b, off, none⟩
theorem FFit.mod {F : Nat → Prop} {w w' : World} {v : Fv} {x : Fw} (h : FFit w v x) (m : Mod F w w') (hF : ∀ b, Blk v.po b → ¬ F b) : FFit w' v x :=
 ⟨h.s, h.j, by
  rcases Nat.eq_zero_or_pos v.k with h0 | h0
  ·have e := h.ps.1
   exact ⟨e, fun i hi => by omega⟩
  ·exact h.ps.mod m fun a ha => by
    obtain ⟨b, off, rfl⟩ := h.pl h0 a ha
    exact hF b ⟨off, ha⟩, h.pc, h.pl⟩
/-- A row of functions of one's own, whose parameters lie in U. -/
def FOwn (U : Nat → Prop) (w : World) (base : Nat) (o : Option Addr) (n c : Nat) (L : List Fw) : Prop :=
 ∃ vs : List Fv, w.ownsRow base 61 3 (.slice o n c) n (encFs vs) ∧ vs.length = L.length ∧ (∀ i (h : i < L.length) (h' : i < vs.length), FFit w vs[i] L[i]) ∧ ∀ v ∈ vs, ∀ b, Blk v.po b → U b ∧ ¬ Blk o b
theorem FOwn.nil (U : Nat → Prop) (w : World) (base : Nat) : FOwn U w base none 0 0 [] := ⟨[], World.ownsRow_nil _ _ _ _, rfl, fun i h => absurd h (Nat.not_lt_zero i), fun v h => by cases h⟩
theorem FOwn.blk {U : Nat → Prop} {w : World} {base : Nat} {o : Option Addr} {n c : Nat} {L : List Fw} (h : FOwn U w base o n c L) {k : Nat} (hk : Blk o k) : base ≤ k ∧ k < w.heap.size := by
 obtain ⟨vs, h1, -⟩ := h
 exact h1.lt k ((blk_of h1).1 hk)
theorem FOwn.mod {U F : Nat → Prop} {w w' : World} {base : Nat} {o : Option Addr} {n c : Nat} {L : List Fw} (h : FOwn U w base o n c L) (m : Mod F w w') (hU : ∀ b, U b → ¬ F b) (hB : ∀ b, Blk o b → ¬ F b) : FOwn U w' base o n c L := by
 obtain ⟨vs, h1, h2, h3, h4⟩ := h
 exact ⟨vs, own_kept h1 m (fun b hb => hB b ((blk_of h1).2 hb)), h2, fun i a a' => (h3 i a a').mod m fun b hb => hU b (h4 _ (List.getElem_mem a') b hb).1, h4⟩
/-- A slice of nodes, as a walk reads it. -/
def NArg (w : World) (o : Option Addr) (n : Nat) (L : List Nd) : Prop := L.length = n ∧ (0 < n → ∃ b off, o = some ⟨b, off, none⟩ ∧ ∀ i (h : i < L.length), ∃ v : Nv, NFit w v L[i] ∧ ∀ j u, (encV v)[j]? = some u → w.cell? ⟨b, off + i * 5 + j, none⟩ = some u)
/-- A slice of functions. -/
def FArg (w : World) (o : Option Addr) (n : Nat) (L : List Fw) : Prop := L.length = n ∧ (0 < n → ∃ b off, o = some ⟨b, off, none⟩ ∧ ∀ i (h : i < L.length), ∃ v : Fv, FFit w v L[i] ∧ ∀ j u, (encF v)[j]? = some u → w.cell? ⟨b, off + i * 3 + j, none⟩ = some u)
theorem NOwn.arg {S : Nat → Prop} {w : World} {base : Nat} {o : Option Addr} {n c : Nat} {L : List Nd} (h : NOwn S w base o n c L) : NArg w o n L := by
 have hn := h.num
 obtain ⟨vs, h1, h2, h3, -⟩ := h
 refine ⟨hn, fun h0 => ?_⟩
 obtain ⟨b, rfl, -, -, -⟩ := own_at h1 h0
 refine ⟨b, 0, rfl, fun i hi => ⟨vs[i]'(by omega), h3 i hi (by omega), fun j u hu => ?_⟩⟩
 have hj : j < 5 := by
  rcases Nat.lt_or_ge j 5 with q | q
  ·exact q
  ·rw [List.getElem?_eq_none (by rw [encV_len]; exact q)] at hu
   cases hu
 rw [Nat.zero_add]
 exact own_cell h1 rfl (by rw [encVs_get (by omega) hj]; exact hu)
theorem FOwn.arg {U : Nat → Prop} {w : World} {base : Nat} {o : Option Addr} {n c : Nat} {L : List Fw} (h : FOwn U w base o n c L) : FArg w o n L := by
 obtain ⟨vs, h1, h2, h3, -⟩ := h
 have hn : L.length = n := by have := h1.1; rw [encFs_len] at this; omega
 refine ⟨hn, fun h0 => ?_⟩
 obtain ⟨b, rfl, -, -, -⟩ := own_at h1 h0
 refine ⟨b, 0, rfl, fun i hi => ⟨vs[i]'(by omega), h3 i hi (by omega), fun j u hu => ?_⟩⟩
 have hj : j < 3 := by
  rcases Nat.lt_or_ge j 3 with q | q
  ·exact q
  ·rw [List.getElem?_eq_none (by rw [encF_len]; exact q)] at hu
   cases hu
 rw [Nat.zero_add]
 exact own_cell h1 rfl (by rw [encFs_get (by omega) hj]; exact hu)
theorem NArg.on {w w' : World} {o : Option Addr} {n : Nat} {L : List Nd} (h : NArg w o n L) (g : Bel w w') : NArg w' o n L :=
 ⟨h.1, fun h0 => let ⟨b, off, e, k⟩ := h.2 h0; ⟨b, off, e, fun i hi => let ⟨v, h1, h2⟩ := k i hi; ⟨v, h1.on g, fun j u hu => g.cell' (h2 j u hu)⟩⟩⟩
theorem FFit.on {w w' : World} {v : Fv} {x : Fw} (h : FFit w v x) (g : Bel w w') : FFit w' v x := ⟨h.s, h.j, h.ps.on g, h.pc, h.pl⟩
theorem FArg.on {w w' : World} {o : Option Addr} {n : Nat} {L : List Fw} (h : FArg w o n L) (g : Bel w w') : FArg w' o n L :=
 ⟨h.1, fun h0 => let ⟨b, off, e, k⟩ := h.2 h0; ⟨b, off, e, fun i hi => let ⟨v, h1, h2⟩ := k i hi; ⟨v, h1.on g, fun j u hu => g.cell' (h2 j u hu)⟩⟩⟩
end Syn
end Go.Proofs.YtcapkeaedpabjaaGreatDoor

/-
 Layer 8, plainly: a tree that lies in a row of nodes, at a place.
-/
namespace Go.Proofs.YtcapkeaedpabjaaGreatDoor
namespace Syn
end Syn
end Go.Proofs.YtcapkeaedpabjaaGreatDoor

/-
 Layer 8: program, as the program has it.
-/
namespace Go.Proofs.YtcapkeaedpabjaaGreatDoor
open Go.RowKit Go.ChangeShapes Go.WideShapes
namespace Syn

end Syn
end Go.Proofs.YtcapkeaedpabjaaGreatDoor

/-
 Layer 8, plainly: the pieces of a program as text.
-/
namespace Go.Proofs.YtcapkeaedpabjaaGreatDoor
namespace Syn
/-- A text in pieces: tokens and blanks. -/
inductive It where
 | tok (c : Ck)
 | gap (b : UInt8)
def sp : It := .gap 32
/-- The level of a binary operator; 0: it is none. -/
def binL (s : Txt) : Nat :=
 if s = [111, 114] then 1 else if s = [97, 110, 100] then 2 else if (opsL 4).contains s then 4 else if (opsL 5).contains s then 5 else if (opsL 6).contains s then 6 else 0
end Syn
end Go.Proofs.YtcapkeaedpabjaaGreatDoor
