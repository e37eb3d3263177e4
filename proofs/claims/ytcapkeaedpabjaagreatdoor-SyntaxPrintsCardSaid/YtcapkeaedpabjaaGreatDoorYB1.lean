/-
  Layer 8, texts merged: Grw, HshK, Sls. For every argument within the bounds that each theorem names.
-/
import Derived.Test.YtcapkeaedpabjaaGreatDoorRows
import Derived.WalkKit
import Derived.RowKit3
import Derived.Deep.QuietTactic
import Derived.BigQuiet
import Derived.Lib.Hide
import Derived.Lib.ItoaWalk
import Derived.Lib.LaidTab
import Derived.Lib.ItoaNum
import Derived.Below
import Derived.Lib.ItoaMem
import Derived.Laws.IdiomStrings
import Derived.SliceStrings
import Derived.Carry
import Derived.OwnWalk
import Derived.Laws.AppendOwn
import Derived.RegionTactic
import Derived.Maps.AppendAt
set_option maxRecDepth 100000
set_option maxHeartbeats 16000000

/-
 The relation of worlds in all contracts: new blocks, and draws; what an old or a new block reads as behind it.
-/
namespace Go.Proofs.YtcapkeaedpabjaaGreatDoor
open Go.RowKit

theorem Gr.trans {a b c : World} (h : Grown a b) (k : Grown b c) : Grown a c :=
 ⟨World.keptBut_trans h.1 k.1,fun x => (k.2.1 x).trans (h.2.1 x),Nat.le_trans h.2.2 k.2.2⟩
theorem Gr.drewN {a b : World} (h : Grown a b) (n : Nat) : Grown a (b.drewN n) := h
theorem Gr.cell {w w' : World} (h : Grown w w') {b off : Nat} (hb : b < w.heap.size) : w'.cell? ⟨b,off,none⟩ = w.cell? ⟨b,off,none⟩ := h.1.cell hb (fun f => f)
theorem Gr.alloc {W w' : World} (h : Grown W w') (c : Array Value) (t : TypeId) : Grown W (w'.alloc (.cells c t)) := h.alloc c t
def Still (P : Program) (f : FuncId) (args : Array Value) (v : Value) : Prop := ∀ W : World,Calls P f args W fun e w' => e = .returned v ∧ w' = W
theorem Still.first {P : Program} {f : FuncId} {args : Array Value} {v : Value} (c : Still P f args v) (w : World) (n : Nat) :
  Calls P f args (w.drewN n) fun e w'' => e = .returned v ∧ ∃ m,w'' = w.drewN m := (c _).mono fun _ _ h => ⟨h.1,n,h.2⟩
theorem Still.later {P : Program} {f : FuncId} {args : Array Value} {v : Value} (c : Still P f args v) (w : World) (a n : Nat) :
  Calls P f args (w.drewN (a + n)) fun e w'' => e = .returned v ∧ ∃ m,w'' = w.drewN (a + m) := (c _).mono fun _ _ h => ⟨h.1,n,h.2⟩
end Go.Proofs.YtcapkeaedpabjaaGreatDoor

/-
 Worlds of the layer hash: what the listed package-level variables hold, and that new blocks leave it so.
-/
namespace Go.Proofs.YtcapkeaedpabjaaGreatDoor
open Go.RowKit

def Bel (w w' : World) : Prop := Below w.heap.size w w'
theorem Bel.refl (w : World) : Bel w w := Below.refl _ _
theorem Bel.trans {a b c : World} (h : Bel a b) (k : Bel b c) : Bel a c := Below.trans h (Below.mono k h.size)
theorem Bel.drewN {a b : World} (h : Bel a b) (n : Nat) : Bel a (b.drewN n) := ⟨h.os,h.tape,h.output,h.size,h.block⟩
theorem Bel.alloc {a b : World} (h : Bel a b) (o : Obj) : Bel a (b.alloc o) := Below.alloc h h.size o
theorem alloc_lt (w : World) (o : Obj) : w.heap.size < (w.alloc o).heap.size := by show w.heap.size < (w.heap.push o).size; simp
theorem Bel.setCell {a b : World} (h : Bel a b) {p : Addr} (hp : a.heap.size ≤ p.block) (u : Value) : Bel a (b.setCell p u) := Below.setCell h hp u
theorem cell_lt {w : World} {b o : Nat} {v : Value} (h : w.cell? ⟨b,o,none⟩ = some v) : b < w.heap.size := by
 rcases Nat.lt_or_ge b w.heap.size with k | k
 ·exact k
 ·unfold World.cell? at h
  rw [Array.getElem?_eq_none k] at h
  cases h
theorem Bel.cell {w w' : World} (h : Bel w w') {b o : Nat} {v : Value} (hc : w.cell? ⟨b,o,none⟩ = some v) : w'.cell? ⟨b,o,none⟩ = some v :=
 (Below.cell (p := ⟨b,o,none⟩) h (cell_lt hc)).trans hc
structure Lad (w : World) : Prop where
 any : True
theorem Lad.on {w w' : World} (h : Lad w) (b : Bel w w') : Lad w' where
 any := (fun (_ : Bel w w') => h.any) b
end Go.Proofs.YtcapkeaedpabjaaGreatDoor

/-
 Slices of strings and of numbers, as a walk reads them and as append builds them.
-/
namespace Go.Proofs.YtcapkeaedpabjaaGreatDoor
open Go.RowKit Go.ChangeShapes Go.WideShapes

theorem cell_lt' {w : World} {p : Addr} {v : Value} (h : w.cell? p = some v) : p.block < w.heap.size := by
 rcases Nat.lt_or_ge p.block w.heap.size with k | k
 ·exact k
 ·unfold World.cell? at h
  rw [Array.getElem?_eq_none k] at h
  cases h
theorem Bel.cell' {w w' : World} (h : Bel w w') {p : Addr} {v : Value} (hc : w.cell? p = some v) : w'.cell? p = some v := (Below.cell (p := p) h (cell_lt' hc)).trans hc
def SlArg (w : World) (o : Option Addr) (n : Nat) (xs : List ByteArray) : Prop := xs.length = n ∧ ∀ i (h : i < xs.length),∃ a,o = some a ∧ w.cell? (a.add i) = some (.string xs[i])
theorem SlArg.on {w w' : World} {o : Option Addr} {n : Nat} {xs : List ByteArray} (h : SlArg w o n xs) (b : Bel w w') : SlArg w' o n xs :=
 ⟨h.1,fun i hi => let ⟨a,e,c⟩ := h.2 i hi; ⟨a,e,b.cell' c⟩⟩
theorem SlArg.nil (w : World) : SlArg w none 0 [] := ⟨rfl,fun i h => absurd h (Nat.not_lt_zero i)⟩
def IArg (w : World) (o : Option Addr) (n : Nat) (l : List Nat) : Prop := l.length = n ∧ ∀ i (h : i < l.length),∃ a,o = some a ∧ w.cell? (a.add i) = some (.int .i64 (l[i] : Int))
theorem IArg.on {w w' : World} {o : Option Addr} {n : Nat} {l : List Nat} (h : IArg w o n l) (b : Bel w w') : IArg w' o n l :=
 ⟨h.1,fun i hi => let ⟨a,e,c⟩ := h.2 i hi; ⟨a,e,b.cell' c⟩⟩
theorem IArg.nil (w : World) : IArg w none 0 [] := ⟨rfl,fun i h => absurd h (Nat.not_lt_zero i)⟩
theorem own_shape {w : World} {base : Nat} {e : TypeId} {v : Value} {k : Nat} {xs : List Value} (h : w.ownsRow base e 1 v k xs) : ∃ o c,v = .slice o k c := by
 rcases h.2 with ⟨hv,hk⟩ | ⟨g,cap,cur,hv,_⟩
 ·exact ⟨none,0,by rw [hv,hk]⟩
 ·exact ⟨_,_,hv⟩
theorem own_on {w w' : World} {base : Nat} {e : TypeId} {v : Value} {k : Nat} {xs : List Value} (h : w.ownsRow base e 1 v k xs) (b : Bel w w') : w'.ownsRow base e 1 v k xs :=
 h.kept (row := none) ⟨b.os,b.tape,b.output,b.size,fun i hi _ => b.block i hi⟩ (by cases hv : v.ownBlock <;> simp)
theorem own_bel {a w w' : World} {e : TypeId} {v : Value} {k : Nat} {xs : List Value} (h : w.ownsRow a.heap.size e 1 v k xs) (b : Bel a w) (hg : w.grownBy w' v.ownBlock) : Bel a w' :=
 Below.grown b hg b.size fun i hi => (h.lt i hi).1
theorem info_str : (Tryz.prog.info? 9).map (fun i => (i.zero,i.size,i.bytes)) = some (some (.string ByteArray.empty),1,16) := by kernel_rfl
theorem cell_new1 (w : World) (x : Value) (t : TypeId) : ∀ j u,[x][j]? = some u → (w.alloc (.cells #[x] t)).cell? ((⟨w.heap.size,0,none⟩ : Addr).add j) = some u := fun j u hj => by
 match j,hj with
 | 0,hj =>
  simp only [List.getElem?_cons_zero,Option.some.injEq] at hj
  rw [Lib.add_plain,World.cell?_alloc_new,← hj]
  rfl
end Go.Proofs.YtcapkeaedpabjaaGreatDoor
