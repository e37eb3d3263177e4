/-
  Layer 6, texts merged: plain trees of cells, their texts and order; cells in memory; cells as arguments of a law. For every argument within the bounds that each theorem names.
-/
import Derived.Test.YtegfcmnbljdcpaaGreatDoorRows
import Derived.WalkKit
import Derived.RowKit3
import Derived.Deep.QuietTactic
import Derived.BigQuiet
import Derived.Lib.Hide
import Derived.Lib.ItoaWalk
import Derived.Lib.LaidTab
import Derived.Lib.ItoaNum
import Derived.Below
import Derived.Lib.ItoaMem
import Derived.Laws.IdiomStrings
import Derived.SliceStrings
import Derived.Carry
import Derived.OwnWalk
import Derived.Laws.AppendOwn
import Derived.RegionTactic
import Derived.Maps.AppendAt
import Derived.Laws.DeepStrings4
import Derived.Deep.LoopGhost
import Derived.Stop.LaidErr
import Derived.Lay
import Derived.LaidMore
import Derived.MakeChecks
import Derived.Deep.Slices
import Derived.ChangeArms
import Derived.SizedLaws

/-
  The relation of worlds in all contracts: new blocks, and draws; what an old or a new block reads as behind it.
-/
namespace Go.Proofs.YtegfcmnbljdcpaaGreatDoor
open Go.RowKit

theorem Gr.trans {a b c : World} (h : Grown a b) (k : Grown b c) : Grown a c :=
  ⟨World.keptBut_trans h.1 k.1, fun x => (k.2.1 x).trans (h.2.1 x), Nat.le_trans h.2.2 k.2.2⟩
theorem Gr.drewN {a b : World} (h : Grown a b) (n : Nat) : Grown a (b.drewN n) := h
theorem Gr.eq {a b : World} (h : a = b) : Grown a b := h ▸ Grown.refl _

theorem Gr.cell {w w' : World} (h : Grown w w') {b off : Nat} (hb : b < w.heap.size) : w'.cell? ⟨b, off, none⟩ = w.cell? ⟨b, off, none⟩ := h.1.cell hb (fun f => f)
theorem Gr.alloc {W w' : World} (h : Grown W w') (c : Array Value) (t : TypeId) : Grown W (w'.alloc (.cells c t)) := h.alloc c t
/-- What a new block of two cells reads as, later on. -/
theorem Gr.new2 {w w' : World} {a b : Value} {t : TypeId} (h : Grown (w.alloc (.cells #[a, b] t)) w') :
    w'.cell? ⟨w.heap.size, 0, none⟩ = some a ∧ w'.cell? ⟨w.heap.size, 1, none⟩ = some b ∧ w'.frozen? ⟨w.heap.size, 0, none⟩ = false ∧ w'.frozen? ⟨w.heap.size, 1, none⟩ = false ∧ w.heap.size < w'.heap.size := by
  have hz : w.heap.size < (w.alloc (.cells #[a, b] t)).heap.size := by show w.heap.size < (w.heap.push _).size; simp
  refine ⟨(Gr.cell h hz).trans ?_, (Gr.cell h hz).trans ?_, (h.2.1 _).trans ?_, (h.2.1 _).trans ?_, Nat.lt_of_lt_of_le hz h.2.2⟩
  · unfold World.cell?; rw [(MapKept.heap_alloc w _).1]; rfl
  · unfold World.cell?; rw [(MapKept.heap_alloc w _).1]; rfl
  · unfold World.frozen?; rw [(MapKept.heap_alloc w _).1]; rfl
  · unfold World.frozen?; rw [(MapKept.heap_alloc w _).1]; rfl
theorem Gr.old {w w' : World} (h : Grown w w') {b off : Nat} {v : Value} (hb : b < w.heap.size) (hc : w.cell? ⟨b, off, none⟩ = some v) : w'.cell? ⟨b, off, none⟩ = some v := (Gr.cell h hb).trans hc
theorem Gr.oldF {w w' : World} (h : Grown w w') {b off : Nat} {v : Bool} (hc : w.frozen? ⟨b, off, none⟩ = v) : w'.frozen? ⟨b, off, none⟩ = v := (h.2.1 _).trans hc
/-- At a call in a region that draws: a contract that leaves every world as it is. -/
def Still (P : Program) (f : FuncId) (args : Array Value) (v : Value) : Prop := ∀ W : World, Calls P f args W fun e w' => e = .returned v ∧ w' = W
theorem Still.first {P : Program} {f : FuncId} {args : Array Value} {v : Value} (c : Still P f args v) (w : World) (n : Nat) :
    Calls P f args (w.drewN n) fun e w'' => e = .returned v ∧ ∃ m, w'' = w.drewN m := (c _).mono fun _ _ h => ⟨h.1, n, h.2⟩
theorem Still.later {P : Program} {f : FuncId} {args : Array Value} {v : Value} (c : Still P f args v) (w : World) (a n : Nat) :
    Calls P f args (w.drewN (a + n)) fun e w'' => e = .returned v ∧ ∃ m, w'' = w.drewN (a + m) := (c _).mono fun _ _ h => ⟨h.1, n, h.2⟩
/-- What a callee says, at every world. -/
def Says (f : Nat) (args : Array Value) (E : Ending) : Prop := ∀ W : World, Calls Tryz.prog f args W fun e w' => e = E ∧ Grown W w'
theorem Says.of_eq {f : Nat} {args : Array Value} {E : Ending} (h : ∀ W : World, Calls Tryz.prog f args W fun e w' => e = E ∧ W = w') : Says f args E := fun W => (h W).mono fun _ _ k => ⟨k.1, k.2 ▸ Grown.refl _⟩
end Go.Proofs.YtegfcmnbljdcpaaGreatDoor

/-
  Worlds of the layer hash: what the listed package-level variables hold, and that new blocks leave it so.
-/
namespace Go.Proofs.YtegfcmnbljdcpaaGreatDoor
open Go.RowKit

/-- All old blocks stand, whatever is done to the new ones. -/
def Bel (w w' : World) : Prop := Below w.heap.size w w'
theorem Bel.refl (w : World) : Bel w w := Below.refl _ _
theorem Bel.trans {a b c : World} (h : Bel a b) (k : Bel b c) : Bel a c := Below.trans h (Below.mono k h.size)
theorem Bel.of_eq {a b : World} (h : a = b) : Bel a b := h ▸ Bel.refl a
theorem Bel.drewN {a b : World} (h : Bel a b) (n : Nat) : Bel a (b.drewN n) := ⟨h.os, h.tape, h.output, h.size, h.block⟩
theorem Bel.alloc {a b : World} (h : Bel a b) (o : Obj) : Bel a (b.alloc o) := Below.alloc h h.size o
theorem alloc_lt (w : World) (o : Obj) : w.heap.size < (w.alloc o).heap.size := by show w.heap.size < (w.heap.push o).size; simp
theorem Bel.setCell {a b : World} (h : Bel a b) {p : Addr} (hp : a.heap.size ≤ p.block) (u : Value) : Bel a (b.setCell p u) := Below.setCell h hp u
theorem cell_lt {w : World} {b o : Nat} {v : Value} (h : w.cell? ⟨b, o, none⟩ = some v) : b < w.heap.size := by
  rcases Nat.lt_or_ge b w.heap.size with k | k
  · exact k
  · unfold World.cell? at h
    rw [Array.getElem?_eq_none k] at h
    cases h
theorem Bel.cell {w w' : World} (h : Bel w w') {b o : Nat} {v : Value} (hc : w.cell? ⟨b, o, none⟩ = some v) : w'.cell? ⟨b, o, none⟩ = some v :=
  (Below.cell (p := ⟨b, o, none⟩) h (cell_lt hc)).trans hc
theorem gPow : Tryz.prog.globalNamed "internal/strconv.uint64pow10" = some 0 := by kernel_rfl
theorem tab_stay {w w' : World} {g : Nat} {n : String} {k : IntKind} {zs : List Int} (hg : Tryz.prog.globalNamed n = some g) (h : Lib.TabIs Tryz.prog w n k zs) (hb : Bel w w') : Lib.TabIs Tryz.prog w' n k zs := by
  unfold Lib.TabIs World.var? at h ⊢
  rw [hg] at h ⊢
  simp only [Option.bind_some] at h ⊢
  have hlt : g < w.heap.size := by
    rcases Nat.lt_or_ge g w.heap.size with k | k
    · exact k
    · rw [Array.getElem?_eq_none k] at h; cases h
  rw [hb.block g hlt]
  exact h

/-- What the listed variables hold, as far as this program has them: the tables, and the two errors of strconv. -/
structure Lad (w : World) : Prop where
  any : True
  pow : Lib.TabIs Tryz.prog w "internal/strconv.uint64pow10" .u64 Lib.pow10Tab
  tz : w.cell? ⟨5, 15, none⟩ = some (.int .u8 4)
theorem Lad.on {w w' : World} (h : Lad w) (b : Bel w w') : Lad w' where
  any := (fun (_ : Bel w w') => h.any) b
  pow := tab_stay gPow h.pow b
  tz := b.cell h.tz
/-- What a callee says in every world that holds the listed variables. -/
def Tells (f : Nat) (args : Array Value) (E : Ending) : Prop := ∀ W : World, Lad W → Calls Tryz.prog f args W fun e w' => e = E ∧ Bel W w'
theorem Tells.of_eq {f : Nat} {args : Array Value} {E : Ending} (h : ∀ W : World, Calls Tryz.prog f args W fun e w' => e = E ∧ W = w') : Tells f args E := fun W _ => (h W).mono fun _ _ k => ⟨k.1, Bel.of_eq k.2⟩
theorem Tells.of_eq' {f : Nat} {args : Array Value} {E : Ending} (h : ∀ W : World, Calls Tryz.prog f args W fun e w' => e = E ∧ w' = W) : Tells f args E := fun W _ => (h W).mono fun _ _ k => ⟨k.1, Bel.of_eq k.2.symm⟩
end Go.Proofs.YtegfcmnbljdcpaaGreatDoor

/-
  Slices of strings and of numbers, as a walk reads them and as append builds them.
-/
namespace Go.Proofs.YtegfcmnbljdcpaaGreatDoor
open Go.RowKit Go.ChangeShapes Go.WideShapes

theorem cell_lt' {w : World} {p : Addr} {v : Value} (h : w.cell? p = some v) : p.block < w.heap.size := by
  rcases Nat.lt_or_ge p.block w.heap.size with k | k
  · exact k
  · unfold World.cell? at h
    rw [Array.getElem?_eq_none k] at h
    cases h
theorem Bel.cell' {w w' : World} (h : Bel w w') {p : Addr} {v : Value} (hc : w.cell? p = some v) : w'.cell? p = some v := (Below.cell (p := p) h (cell_lt' hc)).trans hc
theorem Bel.grow (w : World) (k : Nat) (os : Array Obj) : Bel w (Go.Sort.grow (w.drewN k) os) :=
  ⟨rfl, rfl, rfl, by show w.heap.size ≤ (w.heap ++ os).size; simp, fun i hi => by show (w.heap ++ os)[i]? = _; rw [Array.getElem?_append_left hi]⟩

/-- A slice of strings, as a walk reads it. -/
def SlArg (w : World) (o : Option Addr) (n : Nat) (xs : List ByteArray) : Prop := xs.length = n ∧ ∀ i (h : i < xs.length), ∃ a, o = some a ∧ w.cell? (a.add i) = some (.string xs[i])
theorem SlArg.on {w w' : World} {o : Option Addr} {n : Nat} {xs : List ByteArray} (h : SlArg w o n xs) (b : Bel w w') : SlArg w' o n xs :=
  ⟨h.1, fun i hi => let ⟨a, e, c⟩ := h.2 i hi; ⟨a, e, b.cell' c⟩⟩
theorem SlArg.nil (w : World) : SlArg w none 0 [] := ⟨rfl, fun i h => absurd h (Nat.not_lt_zero i)⟩
/-- An argument of type []string. -/
theorem strs_arg {H : Type} {enc : TypeId × Value → H} {W : World} {o : Option Addr} {n c : Nat} {d : DataW H} {ps : List MemPlace} {t : TypeId}
    (h : DataW.Trod enc Tryz.prog W 0 (fun _ => true) true t (.slice o n c) d ps) (_hlt : ∀ x ∈ ps, x.block < W.heap.size) (ht : Tryz.prog.underlying t = some (.slice 9)) :
    ∃ xs : List ByteArray, (SlArg W o n xs ∧ ∀ x ∈ xs, x.size ≤ maxLen) ∧ (n = 0 ∨ ∃ sp, d = .slice (strs xs) sp) ∧ n ≤ c ∧ c ≤ maxLen := by
  obtain ⟨fuel, hf⟩ := h
  rcases open_strings ht Tryz.underlying9 (by kernel_rfl) hf with ⟨hcs, hx⟩ | ⟨a, len', cap', ss, hcs, _, hl, hm, hz, hx, hcell, hws⟩
  · simp [Value.cells] at hcs
    obtain ⟨rfl, rfl, rfl⟩ := hcs
    exact ⟨[], ⟨SlArg.nil W, fun x h => by cases h⟩, Or.inl rfl, Nat.le_refl _, by decide⟩
  · simp [Value.cells] at hcs
    obtain ⟨rfl, rfl, rfl⟩ := hcs
    simp only [if_true] at hz
    simp only [Prod.mk.injEq] at hx
    refine ⟨ss.take n, ⟨⟨by simp; omega, fun i hi => ⟨a, rfl, ?_⟩⟩, fun x hx => hws x (List.mem_of_mem_take hx)⟩, Or.inr ⟨_, hx.1⟩, hl, hm⟩
    have hi' : i < n := by simp at hi; omega
    rw [hcell i (by omega)]
    simp [List.getD, List.getElem?_eq_getElem (show i < ss.length by omega)]
/-- A slice of numbers, as a walk reads it. -/
def IArg (w : World) (o : Option Addr) (n : Nat) (l : List Nat) : Prop := l.length = n ∧ ∀ i (h : i < l.length), ∃ a, o = some a ∧ w.cell? (a.add i) = some (.int .i64 (l[i] : Int))
theorem IArg.on {w w' : World} {o : Option Addr} {n : Nat} {l : List Nat} (h : IArg w o n l) (b : Bel w w') : IArg w' o n l :=
  ⟨h.1, fun i hi => let ⟨a, e, c⟩ := h.2 i hi; ⟨a, e, b.cell' c⟩⟩
theorem IArg.nil (w : World) : IArg w none 0 [] := ⟨rfl, fun i h => absurd h (Nat.not_lt_zero i)⟩
def encI (l : List Nat) : List Value := l.map fun i : Nat => Value.int .i64 (i : Int)
theorem encI_len (l : List Nat) : (encI l).length = l.length := by simp [encI]
theorem own_shape {w : World} {base : Nat} {e : TypeId} {v : Value} {k : Nat} {xs : List Value} (h : w.ownsRow base e 1 v k xs) : ∃ o c, v = .slice o k c := by
  rcases h.2 with ⟨hv, hk⟩ | ⟨g, cap, cur, hv, _⟩
  · exact ⟨none, 0, by rw [hv, hk]⟩
  · exact ⟨_, _, hv⟩
theorem own_on {w w' : World} {base : Nat} {e : TypeId} {v : Value} {k : Nat} {xs : List Value} (h : w.ownsRow base e 1 v k xs) (b : Bel w w') : w'.ownsRow base e 1 v k xs :=
  h.kept (row := none) ⟨b.os, b.tape, b.output, b.size, fun i hi _ => b.block i hi⟩ (by cases hv : v.ownBlock <;> simp)
theorem own_bel {a w w' : World} {e : TypeId} {v : Value} {k : Nat} {xs : List Value} (h : w.ownsRow a.heap.size e 1 v k xs) (b : Bel a w) (hg : w.grownBy w' v.ownBlock) : Bel a w' :=
  Below.grown b hg b.size fun i hi => (h.lt i hi).1
/-- What is owned reads as a slice of numbers. -/
theorem own_iarg {w : World} {base : Nat} {e : TypeId} {o : Option Addr} {k c : Nat} {l : List Nat} (h : w.ownsRow base e 1 (.slice o k c) k (encI l)) : IArg w o k l := by
  have hl : l.length = k := by have := h.1; rw [encI_len] at this; omega
  refine ⟨hl, fun i hi => ?_⟩
  rcases h.2 with ⟨hv, hk⟩ | ⟨g, cap, cur, hv, _, _, _⟩
  · omega
  · simp only [Value.slice.injEq] at hv
    obtain ⟨rfl, -, rfl⟩ := hv
    exact ⟨_, rfl, h.cells rfl i _ (by simp [encI, List.getElem?_eq_getElem hi])⟩
def encS (l : List ByteArray) : List Value := l.map Value.string
theorem encS_len (l : List ByteArray) : (encS l).length = l.length := by simp [encS]
theorem own_sarg {w : World} {base : Nat} {e : TypeId} {o : Option Addr} {k c : Nat} {l : List ByteArray} (h : w.ownsRow base e 1 (.slice o k c) k (encS l)) : SlArg w o k l := by
  have hl : l.length = k := by have := h.1; rw [encS_len] at this; omega
  refine ⟨hl, fun i hi => ?_⟩
  rcases h.2 with ⟨hv, hk⟩ | ⟨g, cap, cur, hv, _, _, _⟩
  · omega
  · simp only [Value.slice.injEq] at hv
    obtain ⟨rfl, -, rfl⟩ := hv
    exact ⟨_, rfl, h.cells rfl i _ (by simp [encS, List.getElem?_eq_getElem hi])⟩
theorem str_one {l : List ByteArray} : ∀ u ∈ encS l, u.oneCell' = true := fun u hu => by
  simp only [encS, List.mem_map] at hu
  obtain ⟨x, _, rfl⟩ := hu
  rfl
theorem info_str : (Tryz.prog.info? 9).map (fun i => (i.zero, i.size, i.bytes)) = some (some (.string ByteArray.empty), 1, 16) := by kernel_rfl
theorem cell_new1 (w : World) (x : Value) (t : TypeId) : ∀ j u, [x][j]? = some u → (w.alloc (.cells #[x] t)).cell? ((⟨w.heap.size, 0, none⟩ : Addr).add j) = some u := fun j u hj => by
  match j, hj with
  | 0, hj =>
    simp only [List.getElem?_cons_zero, Option.some.injEq] at hj
    rw [Lib.add_plain, World.cell?_alloc_new, ← hj]
    rfl
theorem step_run {P : Program} {w w' : World} {v' v sl : Value} {ops : Array Oper} {o : Oper} {a : Act} {K : Act → World → Prop} {Q : Exit → Act → World → Prop} {E : Prop} (s x : Operand) (t : TypeId)
    (ho : o.op = .call { callee := .builtin .append, args := #[s, x], argTypes := #[t, t] }) (hgd : o.guard = none) (hs : a.eval s = v) (hx : a.eval x = sl)
    (hr : (Builtin.append_ #[t, t] o.type #[v, sl]).run P w = .ok v' w') (h : K (a.put o.dst v') w') :
    if Region.wanted o (yielded ops a.tmps) = true then Oper.wp P o a w K Q else E := by
  have hw : Region.wanted o (yielded ops a.tmps) = true := by simp [Region.wanted, hgd]
  rw [if_pos hw]
  unfold Oper.wp execOp
  simp only [ho, resolve, invoke, builtin, Sem.run_bind, Sem.run_pure, Result.andThen_ok, List.map_toArray, List.map_cons, List.map_nil, hs, hx, hr]
  exact h
end Go.Proofs.YtegfcmnbljdcpaaGreatDoor

/-
  Plain: values as trees, their cells, and the reading of cells. No program.
-/
namespace Go.Proofs.YtegfcmnbljdcpaaGreatDoor
namespace Val

abbrev Txt := List UInt8
/-- A cell: kind, integer, string, number of parts. -/
structure Cel where
  k : Int
  i : Int
  s : Txt
  n : Int
mutual
inductive V where
  | null
  | bool (b : Bool)
  | int (n : Int)
  | str (s : Txt)
  | list (l : L)
  | map (m : M)
inductive L where
  | nil
  | cons (v : V) (r : L)
inductive M where
  | nil
  | cons (k : Txt) (v : V) (r : M)
end
def lenL : L → Nat
  | .nil => 0
  | .cons _ r => lenL r + 1
def lenM : M → Nat
  | .nil => 0
  | .cons _ _ r => lenM r + 1
mutual
/-- The cells of a value, in prefix order. -/
def flat : V → List Cel
  | .null => [⟨1, 0, [], 0⟩]
  | .bool b => [⟨2, if b then 1 else 0, [], 0⟩]
  | .int n => [⟨3, n, [], 0⟩]
  | .str s => [⟨4, 0, s, 0⟩]
  | .list l => ⟨5, 0, [], (lenL l : Int)⟩ :: flatL l
  | .map m => ⟨6, 0, [], (lenM m : Int)⟩ :: flatM m
def flatL : L → List Cel
  | .nil => []
  | .cons v r => flat v ++ flatL r
def flatM : M → List Cel
  | .nil => []
  | .cons k v r => ⟨4, 0, k, 0⟩ :: (flat v ++ flatM r)
end
def plainC (c : UInt8) : Bool := decide (32 ≤ c.toNat) && decide (c.toNat ≤ 126)
def plain (s : Txt) : Bool := s.all plainC
/-- Is a key above the last one? -/
def above (q : Option Txt) (k : Txt) : Bool := match q with
  | none => true
  | some x => decide (x < k)
mutual
def wf : V → Bool
  | .null => true
  | .bool _ => true
  | .int _ => true
  | .str s => plain s
  | .list l => wfL l
  | .map m => wfM none m
def wfL : L → Bool
  | .nil => true
  | .cons v r => wf v && wfL r
def wfM (q : Option Txt) : M → Bool
  | .nil => true
  | .cons k v r => plain k && above q k && wf v && wfM (some k) r
end
def keyC (c : Cel) : Bool := c.k == 4 && c.i == 0 && c.n == 0 && plain c.s
def rdL (rd : List Cel → Option (V × List Cel)) : Nat → List Cel → Option (L × List Cel)
  | 0, l => some (.nil, l)
  | n + 1, l => match rd l with
    | none => none
    | some (v, r) => match rdL rd n r with
      | none => none
      | some (t, r') => some (.cons v t, r')
def rdM (rd : List Cel → Option (V × List Cel)) : Nat → Option Txt → List Cel → Option (M × List Cel)
  | 0, _, l => some (.nil, l)
  | n + 1, q, l => match l with
    | [] => none
    | c :: l' => if keyC c && above q c.s then match rd l' with
      | none => none
      | some (v, r) => match rdM rd n (some c.s) r with
        | none => none
        | some (t, r') => some (.cons c.s v t, r')
      else none
/-- Scalars, by their cell. -/
def rd1 (c : Cel) : Option V :=
  if c.k = 1 then if c.i = 0 ∧ c.s = [] ∧ c.n = 0 then some .null else none
  else if c.k = 2 then if (c.i = 0 ∨ c.i = 1) ∧ c.s = [] ∧ c.n = 0 then some (.bool (c.i == 1)) else none
  else if c.k = 3 then if c.s = [] ∧ c.n = 0 then some (.int c.i) else none
  else if c.k = 4 then if keyC c then some (.str c.s) else none
  else none
def headC (k : Int) (c : Cel) : Bool := c.k == k && c.i == 0 && c.s == [] && decide (0 ≤ c.n)
/-- The value that a list of cells begins with, and what is left. -/
def rd : Nat → List Cel → Option (V × List Cel)
  | 0, _ => none
  | _ + 1, [] => none
  | f + 1, c :: r =>
    if headC 5 c then match rdL (rd f) c.n.toNat r with
      | none => none
      | some (t, r') => some (.list t, r')
    else if headC 6 c then match rdM (rd f) c.n.toNat none r with
      | none => none
      | some (t, r') => some (.map t, r')
    else match rd1 c with
      | none => none
      | some v => some (v, r)
theorem rd1_sound {c : Cel} {v : V} (h : rd1 c = some v) : wf v = true ∧ flat v = [c] := by
  obtain ⟨k, i, s, n⟩ := c
  unfold rd1 at h
  simp only at h
  split at h
  · rename_i e; subst e
    split at h
    · rename_i g; obtain ⟨rfl, rfl, rfl⟩ := g; cases h; exact ⟨rfl, rfl⟩
    · cases h
  · split at h
    · rename_i e; subst e
      split at h
      · rename_i g
        obtain ⟨g1, rfl, rfl⟩ := g
        cases h
        rcases g1 with rfl | rfl <;> exact ⟨rfl, rfl⟩
      · cases h
    · split at h
      · rename_i e; subst e
        split at h
        · rename_i g; obtain ⟨rfl, rfl⟩ := g; cases h; exact ⟨rfl, rfl⟩
        · cases h
      · split at h
        · rename_i e; subst e
          split at h
          · rename_i g
            simp only [keyC, Bool.and_eq_true, beq_iff_eq] at g
            obtain ⟨⟨⟨_, rfl⟩, rfl⟩, g4⟩ := g
            cases h
            exact ⟨g4, rfl⟩
          · cases h
        · cases h
theorem head_eq {k : Int} {c : Cel} (h : headC k c = true) : c = ⟨k, 0, [], (c.n.toNat : Int)⟩ := by
  obtain ⟨k', i, s, n⟩ := c
  simp only [headC, Bool.and_eq_true, beq_iff_eq, decide_eq_true_eq] at h
  obtain ⟨⟨⟨rfl, rfl⟩, rfl⟩, h4⟩ := h
  simp only [Cel.mk.injEq, true_and]
  omega
theorem rdL_sound {g : List Cel → Option (V × List Cel)} (hg : ∀ {l v r}, g l = some (v, r) → wf v = true ∧ l = flat v ++ r) : ∀ {n l t r}, rdL g n l = some (t, r) → wfL t = true ∧ l = flatL t ++ r ∧ lenL t = n
  | 0, l, t, r, h => by
    cases h
    exact ⟨rfl, rfl, rfl⟩
  | n + 1, l, t, r, h => by
    rw [rdL] at h
    cases h1 : g l with
    | none => rw [h1] at h; cases h
    | some x =>
      obtain ⟨v, r1⟩ := x
      rw [h1] at h
      simp only at h
      cases h2 : rdL g n r1 with
      | none => rw [h2] at h; cases h
      | some y =>
        obtain ⟨t', r2⟩ := y
        rw [h2] at h
        cases h
        obtain ⟨a1, a2⟩ := hg h1
        obtain ⟨b1, b2, b3⟩ := rdL_sound hg h2
        refine ⟨by rw [wfL, a1, b1]; rfl, ?_, by rw [lenL, b3]⟩
        rw [a2, b2, flatL, List.append_assoc]
theorem key_eq {c : Cel} (h : keyC c = true) : c = ⟨4, 0, c.s, 0⟩ ∧ plain c.s = true := by
  obtain ⟨k', i, s, n⟩ := c
  simp only [keyC, Bool.and_eq_true, beq_iff_eq] at h
  obtain ⟨⟨⟨rfl, rfl⟩, rfl⟩, h4⟩ := h
  exact ⟨rfl, h4⟩
theorem rdM_sound {g : List Cel → Option (V × List Cel)} (hg : ∀ {l v r}, g l = some (v, r) → wf v = true ∧ l = flat v ++ r) : ∀ {n q l t r}, rdM g n q l = some (t, r) → wfM q t = true ∧ l = flatM t ++ r ∧ lenM t = n
  | 0, q, l, t, r, h => by
    cases h
    exact ⟨rfl, rfl, rfl⟩
  | n + 1, q, [], t, r, h => by cases h
  | n + 1, q, c :: l, t, r, h => by
    rw [rdM] at h
    split at h
    · rename_i hk
      rw [Bool.and_eq_true] at hk
      cases h1 : g l with
      | none => rw [h1] at h; cases h
      | some x =>
        obtain ⟨v, r1⟩ := x
        rw [h1] at h
        simp only at h
        cases h2 : rdM g n (some c.s) r1 with
        | none => rw [h2] at h; cases h
        | some y =>
          obtain ⟨t', r2⟩ := y
          rw [h2] at h
          cases h
          obtain ⟨a1, a2⟩ := hg h1
          obtain ⟨b1, b2, b3⟩ := rdM_sound hg h2
          obtain ⟨k1, k2⟩ := key_eq hk.1
          refine ⟨by rw [wfM, a1, b1, k2, hk.2]; rfl, ?_, by rw [lenM, b3]⟩
          rw [a2, b2, flatM, List.cons_append, List.append_assoc, ← k1]
    · cases h
theorem rd_sound : ∀ {f l v r}, rd f l = some (v, r) → wf v = true ∧ l = flat v ++ r
  | 0, l, v, r, h => by cases h
  | f + 1, [], v, r, h => by cases h
  | f + 1, c :: l, v, r, h => by
    rw [rd] at h
    split at h
    · rename_i hc
      cases h1 : rdL (rd f) c.n.toNat l with
      | none => rw [h1] at h; cases h
      | some x =>
        obtain ⟨t, r1⟩ := x
        rw [h1] at h
        cases h
        obtain ⟨a1, a2, a3⟩ := rdL_sound (fun h => rd_sound h) h1
        refine ⟨by rw [wf, a1], ?_⟩
        rw [a2, flat, a3, List.cons_append, ← head_eq hc]
    · split at h
      · rename_i hc
        cases h1 : rdM (rd f) c.n.toNat none l with
        | none => rw [h1] at h; cases h
        | some x =>
          obtain ⟨t, r1⟩ := x
          rw [h1] at h
          cases h
          obtain ⟨a1, a2, a3⟩ := rdM_sound (fun h => rd_sound h) h1
          refine ⟨by rw [wf, a1], ?_⟩
          rw [a2, flat, a3, List.cons_append, ← head_eq hc]
      · cases h1 : rd1 c with
        | none => rw [h1] at h; cases h
        | some x =>
          rw [h1] at h
          cases h
          obtain ⟨a1, a2⟩ := rd1_sound h1
          exact ⟨a1, by rw [a2]; rfl⟩
theorem flat_pos : ∀ v, 1 ≤ (flat v).length
  | .null => by simp [flat]
  | .bool b => by simp [flat]
  | .int n => by simp [flat]
  | .str s => by simp [flat]
  | .list l => by simp [flat]
  | .map m => by simp [flat]
mutual
theorem rd_full : ∀ (v : V) (f : Nat) (r : List Cel), wf v = true → (flat v).length ≤ f → rd f (flat v ++ r) = some (v, r)
  | .null, f, r, _, h => by cases f with
    | zero => simp [flat] at h
    | succ f => rfl
  | .bool b, f, r, _, h => by cases f with
    | zero => simp [flat] at h
    | succ f => cases b <;> rfl
  | .int n, f, r, _, h => by cases f with
    | zero => simp [flat] at h
    | succ f => simp [flat, rd, headC, rd1]
  | .str s, f, r, hw, h => by cases f with
    | zero => simp [flat] at h
    | succ f =>
      have hs : plain s = true := by rw [wf] at hw; exact hw
      simp [flat, rd, headC, rd1, keyC, hs]
  | .list l, f, r, hw, h => by cases f with
    | zero => simp [flat] at h
    | succ f =>
      rw [wf] at hw
      rw [flat, List.length_cons] at h
      rw [flat, List.cons_append, rd, if_pos (by simp [headC])]
      simp only [Int.toNat_natCast]
      rw [rdL_full l f r hw (by omega)]
  | .map m, f, r, hw, h => by cases f with
    | zero => simp [flat] at h
    | succ f =>
      rw [wf] at hw
      rw [flat, List.length_cons] at h
      rw [flat, List.cons_append, rd, if_neg (by simp [headC]), if_pos (by simp [headC])]
      simp only [Int.toNat_natCast]
      rw [rdM_full m none f r hw (by omega)]
theorem rdL_full : ∀ (l : L) (f : Nat) (r : List Cel), wfL l = true → (flatL l).length ≤ f → rdL (rd f) (lenL l) (flatL l ++ r) = some (l, r)
  | .nil, f, r, _, _ => rfl
  | .cons v t, f, r, hw, h => by
    rw [wfL, Bool.and_eq_true] at hw
    rw [flatL, List.length_append] at h
    rw [lenL, rdL, flatL, List.append_assoc, rd_full v f _ hw.1 (by omega)]
    simp only
    rw [rdL_full t f r hw.2 (by omega)]
theorem rdM_full : ∀ (m : M) (q : Option Txt) (f : Nat) (r : List Cel), wfM q m = true → (flatM m).length ≤ f → rdM (rd f) (lenM m) q (flatM m ++ r) = some (m, r)
  | .nil, q, f, r, _, _ => rfl
  | .cons k v t, q, f, r, hw, h => by
    rw [wfM] at hw
    simp only [Bool.and_eq_true] at hw
    rw [flatM, List.length_cons, List.length_append] at h
    rw [lenM, flatM, List.cons_append, List.append_assoc]
    unfold rdM
    simp only
    rw [if_pos (by simp [keyC, hw.1.1.1, hw.1.1.2]), rd_full v f _ hw.1.2 (by omega)]
    simp only
    rw [rdM_full t (some k) f r hw.2 (by omega)]
end
/-- Reading is the same at every measure that is large enough. -/
theorem rd_any {f g : Nat} {l : List Cel} (hf : l.length ≤ f) (hg : l.length ≤ g) : rd f l = rd g l := by
  cases h : rd f l with
  | some x =>
    obtain ⟨v, r⟩ := x
    obtain ⟨h1, rfl⟩ := rd_sound h
    rw [List.length_append] at hg
    exact (rd_full v g r h1 (by omega)).symm
  | none =>
    cases h2 : rd g l with
    | none => rfl
    | some x =>
      obtain ⟨v, r⟩ := x
      obtain ⟨h1, rfl⟩ := rd_sound h2
      rw [List.length_append] at hf
      rw [rd_full v f r h1 (by omega)] at h
      cases h
/-- The value of a list of cells. -/
def par (l : List Cel) : Option V := match rd l.length l with
  | some (v, []) => some v
  | _ => none
theorem par_some {l : List Cel} {v : V} : par l = some v ↔ wf v = true ∧ l = flat v := by
  constructor
  · intro h
    unfold par at h
    split at h
    · rename_i h1
      cases h
      obtain ⟨a, b⟩ := rd_sound h1
      exact ⟨a, by rw [b, List.append_nil]⟩
    · cases h
  · rintro ⟨h1, rfl⟩
    unfold par
    have := rd_full v (flat v).length [] h1 (Nat.le_refl _)
    rw [List.append_nil] at this
    rw [this]
theorem flat_inj {v u : V} {r q : List Cel} (hv : wf v = true) (hu : wf u = true) (h : flat v ++ r = flat u ++ q) : v = u ∧ r = q := by
  have h1 := rd_full v ((flat v).length + (flat u).length) r hv (by omega)
  have h2 := rd_full u ((flat v).length + (flat u).length) q hu (by omega)
  rw [h, h2] at h1
  cases h1
  exact ⟨rfl, rfl⟩
end Val
end Go.Proofs.YtegfcmnbljdcpaaGreatDoor

/-
  Plain: levels and texts of values, and the reading of texts. No program.
-/
namespace Go.Proofs.YtegfcmnbljdcpaaGreatDoor
namespace Val
open Go.Lib (itoa decDigits)

mutual
def lvl : V → Nat
  | .null => 1
  | .bool _ => 1
  | .int _ => 1
  | .str _ => 1
  | .list l => lvlL l + 1
  | .map m => lvlM m + 1
def lvlL : L → Nat
  | .nil => 0
  | .cons v r => max (lvl v) (lvlL r)
def lvlM : M → Nat
  | .nil => 0
  | .cons _ v r => max (lvl v) (lvlM r)
end
def esc : Txt → Txt
  | [] => []
  | c :: r => if c = 34 ∨ c = 92 then 92 :: c :: esc r else c :: esc r
/-- A string in quotes. -/
def quo (s : Txt) : Txt := 34 :: (esc s ++ [34])
mutual
def text : V → Txt
  | .null => [110, 117, 108, 108]
  | .bool true => [116, 114, 117, 101]
  | .bool false => [102, 97, 108, 115, 101]
  | .int n => itoa n
  | .str s => quo s
  | .list l => 91 :: (textL l ++ [93])
  | .map m => 123 :: (textM m ++ [125])
def textL : L → Txt
  | .nil => []
  | .cons v r => text v ++ moreL r
def moreL : L → Txt
  | .nil => []
  | .cons v r => 44 :: (text v ++ moreL r)
def textM : M → Txt
  | .nil => []
  | .cons k v r => quo k ++ 58 :: (text v ++ moreM r)
def moreM : M → Txt
  | .nil => []
  | .cons k v r => 44 :: (quo k ++ 58 :: (text v ++ moreM r))
end
/-- The string whose escaped text a text begins with, behind the first quote. -/
def rdS : Txt → Option (Txt × Txt)
  | [] => none
  | c :: r => if c = 34 then some ([], r) else if c = 92 then match r with
      | [] => none
      | d :: r' => if d = 34 ∨ d = 92 then match rdS r' with
        | none => none
        | some (s, t) => some (d :: s, t)
        else none
    else match rdS r with
      | none => none
      | some (s, t) => some (c :: s, t)
theorem rdS_esc : ∀ (s r : Txt), rdS (esc s ++ 34 :: r) = some (s, r)
  | [], r => by
    show rdS (34 :: r) = _
    unfold rdS
    rfl
  | c :: s, r => by
    have ih := rdS_esc s r
    unfold esc
    split
    · rename_i h
      simp only [List.cons_append]
      unfold rdS
      rw [if_neg (by decide), if_pos rfl]
      simp only
      rw [if_pos h, ih]
    · rename_i h
      simp only [List.cons_append]
      unfold rdS
      rw [if_neg (fun e => h (Or.inl e)), if_neg (fun e => h (Or.inr e)), ih]
theorem rdS_sound : ∀ {l s r : Txt}, rdS l = some (s, r) → l = esc s ++ 34 :: r
  | [], s, r, h => by cases h
  | c :: l, s, r, h => by
    unfold rdS at h
    split at h
    · rename_i e; subst e; cases h; rfl
    · rename_i e1
      split at h
      · rename_i e2; subst e2
        cases l with
        | nil => cases h
        | cons d l =>
          simp only at h
          split at h
          · rename_i e3
            cases h1 : rdS l with
            | none => rw [h1] at h; cases h
            | some x =>
              obtain ⟨s', t⟩ := x
              rw [h1] at h
              cases h
              have := rdS_sound h1
              rw [esc, if_pos e3, this]
              rfl
          · cases h
      · rename_i e2
        cases h1 : rdS l with
        | none => rw [h1] at h; cases h
        | some x =>
          obtain ⟨s', t⟩ := x
          rw [h1] at h
          cases h
          have := rdS_sound h1
          rw [esc, if_neg (fun e => e.elim e1 e2), this]
          rfl
end Val
end Go.Proofs.YtegfcmnbljdcpaaGreatDoor

/-
  Plain: the reading of integers. No program.
-/
namespace Go.Proofs.YtegfcmnbljdcpaaGreatDoor
namespace Val
open Go.Lib (itoa decDigits)

def isD (c : UInt8) : Bool := decide (48 ≤ c.toNat) && decide (c.toNat ≤ 57)
theorem isD_bd {c : UInt8} (h : isD c = true) : 48 ≤ c.toNat ∧ c.toNat ≤ 57 := by
  simp only [isD, Bool.and_eq_true, decide_eq_true_eq] at h
  exact h
def stepD (a : Nat) (c : UInt8) : Nat := a * 10 + (c.toNat - 48)
def valD (l : Txt) : Nat := l.foldl stepD 0
theorem valD_snoc (l : Txt) (c : UInt8) : valD (l ++ [c]) = valD l * 10 + (c.toNat - 48) := by
  unfold valD
  rw [List.foldl_append]
  rfl
theorem digit_of {d : Nat} (h : d < 10) : (UInt8.ofNat (48 + d)).toNat = 48 + d := by
  rw [UInt8.toNat_ofNat']
  omega
theorem isD_of {d : Nat} (h : d < 10) : isD (UInt8.ofNat (48 + d)) = true := by
  unfold isD
  rw [digit_of h]
  simp
  omega
theorem dec_all (u : Nat) : (decDigits u).all isD = true := by
  induction u using Nat.strongRecOn with
  | _ u ih =>
    rw [decDigits]
    split
    · rename_i h
      rw [List.all_cons, isD_of h]
      rfl
    · rename_i h
      rw [List.all_append, ih (u / 10) (by omega)]
      rw [List.all_cons, isD_of (Nat.mod_lt u (by decide : 0 < 10))]
      rfl
theorem dec_val (u : Nat) : valD (decDigits u) = u := by
  induction u using Nat.strongRecOn with
  | _ u ih =>
    rw [decDigits]
    split
    · rename_i h
      show 0 * 10 + ((UInt8.ofNat (48 + u)).toNat - 48) = u
      rw [digit_of h]
      omega
    · rename_i h
      rw [valD_snoc, ih (u / 10) (by omega), digit_of (Nat.mod_lt u (by decide : 0 < 10))]
      omega
theorem dec_ne (u : Nat) : decDigits u ≠ [] := by
  rw [decDigits]
  split
  · simp
  · simp
/-- No leading zero but in zero itself. -/
def okD (l : Txt) : Bool := l.all isD && !l.isEmpty && (l == [48] || l.head? != some 48)
theorem dec_head (u : Nat) (h : 1 ≤ u) : (decDigits u).head? ≠ some 48 := by
  induction u using Nat.strongRecOn with
  | _ u ih =>
    rw [decDigits]
    split
    · rename_i h1
      intro e
      simp only [List.head?_cons, Option.some.injEq] at e
      have := congrArg UInt8.toNat e
      rw [digit_of h1] at this
      have e48 : (48 : UInt8).toNat = 48 := rfl
      omega
    · rename_i h1
      have := ih (u / 10) (by omega) (by omega)
      cases hd : decDigits (u / 10) with
      | nil => exact absurd hd (dec_ne _)
      | cons c t =>
        rw [hd] at this
        exact this
theorem dec_zero : decDigits 0 = [48] := by
  rw [decDigits]
  rfl
theorem dec_ok (u : Nat) : okD (decDigits u) = true := by
  unfold okD
  rw [dec_all]
  have h1 : (decDigits u).isEmpty = false := by simpa using dec_ne u
  rw [h1]
  rcases Nat.eq_zero_or_pos u with rfl | h
  · rw [dec_zero]; rfl
  · have := dec_head u h
    have h2 : ((decDigits u).head? != some 48) = true := by simpa using this
    rw [h2]
    simp
theorem rev_ind {P : Txt → Prop} (h0 : P []) (h1 : ∀ l c, P l → P (l ++ [c])) : ∀ l, P l := by
  have key : ∀ l : Txt, P l.reverse := by
    intro l
    induction l with
    | nil => exact h0
    | cons c t ih =>
      rw [List.reverse_cons]
      exact h1 _ _ ih
  intro l
  have := key l.reverse
  rw [List.reverse_reverse] at this
  exact this
theorem val_pos {l : Txt} (ha : l.all isD = true) (hn : l ≠ []) (hh : l.head? ≠ some 48) : 1 ≤ valD l := by
  induction l using rev_ind with
  | h0 => exact absurd rfl hn
  | h1 l c ih =>
    rw [List.all_append, Bool.and_eq_true] at ha
    have hc : isD c = true := by simpa using ha.2
    have hb := isD_bd hc
    rw [valD_snoc]
    cases l with
    | nil =>
      have h48 : c.toNat ≠ 48 := fun e => hh (by
        simp only [List.nil_append, List.head?_cons, Option.some.injEq]
        exact UInt8.toNat_inj.1 e)
      omega
    | cons x r =>
      have := ih ha.1 (by simp) (by simpa using hh)
      omega
theorem dec_back {l : Txt} (ha : l.all isD = true) (hn : l ≠ []) (hh : l.head? ≠ some 48) : decDigits (valD l) = l := by
  induction l using rev_ind with
  | h0 => exact absurd rfl hn
  | h1 l c ih =>
    have ha0 := ha
    rw [List.all_append, Bool.and_eq_true] at ha
    have hc : isD c = true := by simpa using ha.2
    have hb := isD_bd hc
    have hcc : UInt8.ofNat (48 + (c.toNat - 48)) = c := by
      apply UInt8.toNat_inj.1
      rw [digit_of (by omega)]
      omega
    cases l with
    | nil =>
      rw [List.nil_append, show valD [c] = 0 * 10 + (c.toNat - 48) from rfl, decDigits, dif_pos (by omega), show 0 * 10 + (c.toNat - 48) = c.toNat - 48 by omega, hcc]
    | cons x r =>
      have h1 : (x :: r).head? ≠ some 48 := by simpa using hh
      have e := ih ha.1 (by simp) h1
      have p := val_pos ha.1 (by simp) h1
      rw [valD_snoc, decDigits, dif_neg (by omega), show (valD (x :: r) * 10 + (c.toNat - 48)) / 10 = valD (x :: r) by omega, show (valD (x :: r) * 10 + (c.toNat - 48)) % 10 = c.toNat - 48 by omega, e, hcc]
theorem dec_of_ok {l : Txt} (h : okD l = true) : decDigits (valD l) = l := by
  unfold okD at h
  simp only [Bool.and_eq_true, Bool.or_eq_true, beq_iff_eq, Bool.not_eq_true', bne_iff_ne] at h
  rcases h.2 with rfl | h2
  · exact dec_zero
  · exact dec_back h.1.1 (by simpa using h.1.2) h2
/-- Does a text begin with a digit? -/
def begD : Txt → Bool
  | [] => false
  | c :: _ => isD c
theorem take_digits {d r : Txt} (hd : d.all isD = true) (hr : begD r = false) : (d ++ r).takeWhile isD = d ∧ (d ++ r).dropWhile isD = r := by
  induction d with
  | nil =>
    cases r with
    | nil => exact ⟨rfl, rfl⟩
    | cons c t =>
      have hc : isD c = false := hr
      constructor
      · simp [hc]
      · simp [hc]
  | cons c d ih =>
    simp only [List.all_cons, Bool.and_eq_true] at hd
    obtain ⟨i1, i2⟩ := ih hd.2
    constructor
    · simp [hd.1, i1]
    · simp [hd.1, i2]
theorem beg_drop (l : Txt) : begD (l.dropWhile isD) = false := by
  induction l with
  | nil => rfl
  | cons c l ih =>
    simp only [List.dropWhile]
    cases h : isD c with
    | true => exact ih
    | false => exact h
/-- The integer that a text begins with. -/
def rdI (l : Txt) : Option (Int × Txt) := match l with
  | [] => none
  | c :: t => if c = 45 then (if okD (t.takeWhile isD) && t.takeWhile isD != [48] then some (-(valD (t.takeWhile isD) : Int), t.dropWhile isD) else none)
    else if okD (l.takeWhile isD) then some ((valD (l.takeWhile isD) : Int), l.dropWhile isD) else none
theorem dec_cons (u : Nat) : ∃ c t, decDigits u = c :: t ∧ isD c = true := by
  cases h : decDigits u with
  | nil => exact absurd h (dec_ne u)
  | cons c t =>
    have := dec_all u
    rw [h, List.all_cons, Bool.and_eq_true] at this
    exact ⟨c, t, rfl, this.1⟩
theorem rdI_full (n : Int) (r : Txt) (hr : begD r = false) : rdI (itoa n ++ r) = some (n, r) := by
  unfold itoa
  by_cases hn : n < 0
  · rw [if_pos hn, List.cons_append]
    unfold rdI
    simp only [if_pos]
    obtain ⟨e1, e2⟩ := take_digits (dec_all n.natAbs) hr
    rw [e1, e2, dec_ok, dec_val]
    have h48 : (decDigits n.natAbs != [48]) = true := by
      have := dec_head n.natAbs (by omega)
      rw [bne_iff_ne]
      intro e
      rw [e] at this
      exact this rfl
    rw [h48]
    simp only [Bool.and_self, if_true, Option.some.injEq, Prod.mk.injEq, and_true]
    omega
  · rw [if_neg hn]
    obtain ⟨e1, e2⟩ := take_digits (dec_all n.toNat) hr
    obtain ⟨c, t, hc, hcd⟩ := dec_cons n.toNat
    have h45 : c ≠ 45 := fun e => by subst e; exact absurd hcd (by decide)
    have hl : decDigits n.toNat ++ r = c :: (t ++ r) := by rw [hc]; rfl
    rw [hl] at e1 e2 ⊢
    unfold rdI
    simp only [if_neg h45]
    rw [e1, e2, dec_ok, dec_val]
    simp only [if_true, Option.some.injEq, Prod.mk.injEq, and_true]
    omega
theorem rdI_sound {l r : Txt} {n : Int} (h : rdI l = some (n, r)) : l = itoa n ++ r ∧ begD r = false := by
  unfold rdI at h
  split at h
  · cases h
  · rename_i c t
    split at h
    · rename_i hc
      subst hc
      split at h
      · rename_i hk
        rw [Bool.and_eq_true] at hk
        cases h
        have hd := dec_of_ok hk.1
        have hp : 1 ≤ valD (t.takeWhile isD) := by
          have hk1 := hk.1
          unfold okD at hk1
          simp only [Bool.and_eq_true, Bool.or_eq_true, beq_iff_eq, Bool.not_eq_true', bne_iff_ne] at hk1 hk
          rcases hk1.2 with e | e
          · exact absurd e hk.2
          · exact val_pos hk1.1.1 (by simpa using hk1.1.2) e
        refine ⟨?_, beg_drop t⟩
        unfold itoa
        rw [if_pos (by omega), show ((-(valD (t.takeWhile isD) : Int)).natAbs) = valD (t.takeWhile isD) by omega, hd, List.cons_append, List.takeWhile_append_dropWhile]
      · cases h
    · split at h
      · rename_i hk
        cases h
        have hd := dec_of_ok hk
        refine ⟨?_, beg_drop _⟩
        unfold itoa
        rw [if_neg (by omega), Int.toNat_natCast, hd, List.takeWhile_append_dropWhile]
      · cases h
end Val
end Go.Proofs.YtegfcmnbljdcpaaGreatDoor

/-
  Plain: the reading of texts of values. No program.
-/
namespace Go.Proofs.YtegfcmnbljdcpaaGreatDoor
namespace Val
open Go.Lib (itoa decDigits)

def rdTL (g : Txt → Option (V × Txt)) : Nat → Txt → Option (L × Txt)
  | 0, _ => none
  | n + 1, l => match g l with
    | none => none
    | some (v, r) => match r with
      | [] => none
      | d :: r' => if d = 44 then match rdTL g n r' with
          | none => none
          | some (t, q) => some (.cons v t, q)
        else if d = 93 then some (.cons v .nil, r')
        else none
/-- A key and its colon. -/
def rdK (l : Txt) : Option (Txt × Txt) := match l with
  | [] => none
  | c :: l' => if c = 34 then match rdS l' with
      | none => none
      | some (k, r) => match r with
        | [] => none
        | d :: r' => if d = 58 then some (k, r') else none
    else none
def rdTM (g : Txt → Option (V × Txt)) : Nat → Txt → Option (M × Txt)
  | 0, _ => none
  | n + 1, l => match rdK l with
    | none => none
    | some (k, r0) => match g r0 with
      | none => none
      | some (v, r) => match r with
        | [] => none
        | d :: r' => if d = 44 then match rdTM g n r' with
            | none => none
            | some (t, q) => some (.cons k v t, q)
          else if d = 125 then some (.cons k v .nil, r')
          else none
/-- The words. -/
def rdW (l : Txt) : Option (V × Txt) :=
  if ([110, 117, 108, 108] : Txt).isPrefixOf l then some (.null, l.drop 4)
  else if ([116, 114, 117, 101] : Txt).isPrefixOf l then some (.bool true, l.drop 4)
  else if ([102, 97, 108, 115, 101] : Txt).isPrefixOf l then some (.bool false, l.drop 5)
  else none
/-- The value whose text a text begins with, and what is left. -/
def rdT : Nat → Txt → Option (V × Txt)
  | 0, _ => none
  | f + 1, l => match rdW l with
    | some x => some x
    | none => match l with
      | [] => none
      | c :: r =>
        if c = 34 then match rdS r with
          | none => none
          | some (s, t) => some (.str s, t)
        else if c = 91 then (match r with
          | [] => none
          | d :: r' => if d = 93 then some (.list .nil, r') else match rdTL (rdT f) f r with
            | none => none
            | some (t, q) => some (.list t, q))
        else if c = 123 then (match r with
          | [] => none
          | d :: r' => if d = 125 then some (.map .nil, r') else match rdTM (rdT f) f r with
            | none => none
            | some (t, q) => some (.map t, q))
        else match rdI l with
          | none => none
          | some (n, q) => some (.int n, q)
theorem pre_drop {p l : Txt} (h : p.isPrefixOf l = true) : l = p ++ l.drop p.length := by
  rw [List.isPrefixOf_iff_prefix] at h
  obtain ⟨r, rfl⟩ := h
  simp
theorem rdW_sound {l r : Txt} {v : V} (h : rdW l = some (v, r)) : l = text v ++ r := by
  unfold rdW at h
  split at h
  · rename_i hp; cases h; exact pre_drop hp
  · split at h
    · rename_i hp; cases h; exact pre_drop hp
    · split at h
      · rename_i hp; cases h; exact pre_drop hp
      · cases h
theorem more_eq {t : L} (h : t ≠ .nil) : moreL t = 44 :: textL t := by
  cases t with
  | nil => exact absurd rfl h
  | cons v r => rfl
theorem moreM_eq {t : M} (h : t ≠ .nil) : moreM t = 44 :: textM t := by
  cases t with
  | nil => exact absurd rfl h
  | cons k v r => rfl
theorem rdTL_sound {g : Txt → Option (V × Txt)} (hg : ∀ {l v r}, g l = some (v, r) → l = text v ++ r) : ∀ {n l t q}, rdTL g n l = some (t, q) → t ≠ .nil ∧ l = textL t ++ 93 :: q
  | 0, l, t, q, h => by cases h
  | n + 1, l, t, q, h => by
    rw [rdTL] at h
    cases h1 : g l with
    | none => rw [h1] at h; cases h
    | some x =>
      obtain ⟨v, r⟩ := x
      rw [h1] at h
      have e1 := hg h1
      cases r with
      | nil => cases h
      | cons d r =>
        simp only at h
        split at h
        · rename_i hd
          subst hd
          cases h2 : rdTL g n r with
          | none => rw [h2] at h; cases h
          | some y =>
            obtain ⟨t', q'⟩ := y
            rw [h2] at h
            cases h
            obtain ⟨a1, a2⟩ := rdTL_sound hg h2
            refine ⟨by simp, ?_⟩
            rw [textL, more_eq a1, e1, a2]
            simp
        · split at h
          · rename_i hd
            subst hd
            cases h
            refine ⟨by simp, ?_⟩
            rw [textL, e1, moreL]
            simp
          · cases h
theorem rdK_sound {l k r : Txt} (h : rdK l = some (k, r)) : l = quo k ++ 58 :: r := by
  unfold rdK at h
  split at h
  · cases h
  · rename_i c l'
    split at h
    · rename_i hc
      subst hc
      cases h1 : rdS l' with
      | none => rw [h1] at h; cases h
      | some x =>
        obtain ⟨s, t⟩ := x
        rw [h1] at h
        cases t with
        | nil => cases h
        | cons d t =>
          simp only at h
          split at h
          · rename_i hd
            subst hd
            cases h
            rw [rdS_sound h1]
            simp [quo]
          · cases h
    · cases h
theorem rdK_full (k r : Txt) : rdK (quo k ++ 58 :: r) = some (k, r) := by
  unfold rdK quo
  simp only [List.cons_append, if_true]
  rw [List.append_assoc, List.singleton_append, rdS_esc]
  simp
theorem rdTM_sound {g : Txt → Option (V × Txt)} (hg : ∀ {l v r}, g l = some (v, r) → l = text v ++ r) : ∀ {n l t q}, rdTM g n l = some (t, q) → t ≠ .nil ∧ l = textM t ++ 125 :: q
  | 0, l, t, q, h => by cases h
  | n + 1, l, t, q, h => by
    rw [rdTM] at h
    cases h0 : rdK l with
    | none => rw [h0] at h; cases h
    | some x0 =>
      obtain ⟨k, r0⟩ := x0
      rw [h0] at h
      have e0 := rdK_sound h0
      simp only at h
      cases h1 : g r0 with
      | none => rw [h1] at h; cases h
      | some x =>
        obtain ⟨v, r⟩ := x
        rw [h1] at h
        have e1 := hg h1
        cases r with
        | nil => cases h
        | cons d r =>
          simp only at h
          split at h
          · rename_i hd
            subst hd
            cases h2 : rdTM g n r with
            | none => rw [h2] at h; cases h
            | some y =>
              obtain ⟨t', q'⟩ := y
              rw [h2] at h
              cases h
              obtain ⟨a1, a2⟩ := rdTM_sound hg h2
              refine ⟨by simp, ?_⟩
              rw [textM, moreM_eq a1, e0, e1, a2]
              simp
          · split at h
            · rename_i hd
              subst hd
              cases h
              refine ⟨by simp, ?_⟩
              rw [textM, e0, e1, moreM]
              simp
            · cases h
theorem rdT_sound : ∀ {f l v r}, rdT f l = some (v, r) → l = text v ++ r
  | 0, l, v, r, h => by cases h
  | f + 1, l, v, r, h => by
    rw [rdT.eq_def] at h
    simp only at h
    cases hw : rdW l with
    | some x =>
      rw [hw] at h
      cases h
      exact rdW_sound hw
    | none =>
      rw [hw] at h
      simp only at h
      cases l with
      | nil => cases h
      | cons c l =>
        simp only at h
        split at h
        · rename_i hc
          subst hc
          cases h1 : rdS l with
          | none => rw [h1] at h; cases h
          | some x =>
            obtain ⟨s, t⟩ := x
            rw [h1] at h
            cases h
            rw [rdS_sound h1]
            simp [text, quo]
        · split at h
          · rename_i hc
            subst hc
            cases l with
            | nil => cases h
            | cons d l =>
              simp only at h
              split at h
              · rename_i hd
                subst hd
                cases h
                simp [text, textL]
              · cases h1 : rdTL (rdT f) f (d :: l) with
                | none => rw [h1] at h; cases h
                | some x =>
                  obtain ⟨t, q⟩ := x
                  rw [h1] at h
                  cases h
                  obtain ⟨_, a2⟩ := rdTL_sound (fun h => rdT_sound h) h1
                  rw [a2]
                  simp [text]
          · split at h
            · rename_i hc
              subst hc
              cases l with
              | nil => cases h
              | cons d l =>
                simp only at h
                split at h
                · rename_i hd
                  subst hd
                  cases h
                  simp [text, textM]
                · cases h1 : rdTM (rdT f) f (d :: l) with
                  | none => rw [h1] at h; cases h
                  | some x =>
                    obtain ⟨t, q⟩ := x
                    rw [h1] at h
                    cases h
                    obtain ⟨_, a2⟩ := rdTM_sound (fun h => rdT_sound h) h1
                    rw [a2]
                    simp [text]
            · cases h1 : rdI (c :: l) with
              | none => rw [h1] at h; cases h
              | some x =>
                obtain ⟨n, q⟩ := x
                rw [h1] at h
                cases h
                exact (rdI_sound h1).1
/-- What no word begins with. -/
theorem rdW_none {c : UInt8} (h : c ≠ 110 ∧ c ≠ 116 ∧ c ≠ 102) (l : Txt) : rdW (c :: l) = none := by
  unfold rdW
  have h1 : (110 == c) = false := by rw [beq_eq_false_iff_ne]; exact fun e => h.1 e.symm
  have h2 : (116 == c) = false := by rw [beq_eq_false_iff_ne]; exact fun e => h.2.1 e.symm
  have h3 : (102 == c) = false := by rw [beq_eq_false_iff_ne]; exact fun e => h.2.2 e.symm
  simp only [List.isPrefixOf, h1, h2, h3, Bool.false_and, Bool.false_eq_true, if_false]
theorem itoa_cons (n : Int) : ∃ c t, itoa n = c :: t ∧ (isD c = true ∨ c = 45) := by
  unfold itoa
  split
  · exact ⟨_, _, rfl, Or.inr rfl⟩
  · obtain ⟨c, t, h1, h2⟩ := dec_cons n.toNat
    exact ⟨c, t, h1, Or.inl h2⟩
theorem text_pos (v : V) : 1 ≤ (text v).length := by
  cases v with
  | null => simp [text]
  | bool b => cases b <;> simp [text]
  | int n => obtain ⟨c, t, h, _⟩ := itoa_cons n; rw [text, h]; simp
  | str s => simp [text, quo]
  | list l => simp [text]
  | map m => simp [text]
theorem d_ne {c : UInt8} (h : isD c = true ∨ c = 45) : c ≠ 110 ∧ c ≠ 116 ∧ c ≠ 102 ∧ c ≠ 34 ∧ c ≠ 91 ∧ c ≠ 123 ∧ c ≠ 93 := by
  refine ⟨?_, ?_, ?_, ?_, ?_, ?_, ?_⟩
  all_goals
    rintro rfl
    rcases h with h | h
    · exact absurd h (by decide)
    · exact absurd h (by decide)
/-- No text begins with a closing bracket. -/
theorem text_head (v : V) : ∃ c t, text v = c :: t ∧ c ≠ 93 := by
  cases v with
  | null => exact ⟨_, _, rfl, by decide⟩
  | bool b => cases b <;> exact ⟨_, _, rfl, by decide⟩
  | int n =>
    obtain ⟨c, t, h, hc⟩ := itoa_cons n
    exact ⟨c, t, by rw [text, h], (d_ne hc).2.2.2.2.2.2⟩
  | str s => exact ⟨_, _, rfl, by decide⟩
  | list l => exact ⟨_, _, rfl, by decide⟩
  | map m => exact ⟨_, _, rfl, by decide⟩
theorem rdT_s (f : Nat) (r q : Txt) (s : Txt) (h : rdS r = some (s, q)) : rdT (f + 1) (34 :: r) = some (.str s, q) := by
  rw [rdT.eq_def]
  simp only
  rw [rdW_none (by decide)]
  simp only [if_true]
  rw [h]
theorem rdT_l0 (f : Nat) (r : Txt) : rdT (f + 1) (91 :: 93 :: r) = some (.list .nil, r) := by
  rw [rdT.eq_def]
  simp only
  rw [rdW_none (by decide)]
  rfl
theorem rdT_l1 (f : Nat) (c : UInt8) (r q : Txt) (t : L) (hc : c ≠ 93) (h : rdTL (rdT f) f (c :: r) = some (t, q)) : rdT (f + 1) (91 :: c :: r) = some (.list t, q) := by
  rw [rdT.eq_def]
  simp only
  rw [rdW_none (by decide)]
  simp only
  rw [if_neg (by decide), if_pos trivial, if_neg hc, h]
theorem rdT_m0 (f : Nat) (r : Txt) : rdT (f + 1) (123 :: 125 :: r) = some (.map .nil, r) := by
  rw [rdT.eq_def]
  simp only
  rw [rdW_none (by decide)]
  rfl
theorem rdT_m1 (f : Nat) (c : UInt8) (r q : Txt) (t : M) (hc : c ≠ 125) (h : rdTM (rdT f) f (c :: r) = some (t, q)) : rdT (f + 1) (123 :: c :: r) = some (.map t, q) := by
  rw [rdT.eq_def]
  simp only
  rw [rdW_none (by decide)]
  simp only
  rw [if_neg (by decide), if_neg (by decide), if_pos trivial, if_neg hc, h]
theorem rdT_i (f : Nat) (c : UInt8) (r q : Txt) (n : Int) (hc : isD c = true ∨ c = 45) (h : rdI (c :: r) = some (n, q)) : rdT (f + 1) (c :: r) = some (.int n, q) := by
  have hd := d_ne hc
  rw [rdT.eq_def]
  simp only
  rw [rdW_none ⟨hd.1, hd.2.1, hd.2.2.1⟩]
  simp only
  rw [if_neg hd.2.2.2.1, if_neg hd.2.2.2.2.1, if_neg hd.2.2.2.2.2.1, h]
mutual
theorem rdT_full : ∀ (v : V) (f : Nat) (r : Txt), begD r = false → (text v).length ≤ f → rdT f (text v ++ r) = some (v, r)
  | .null, f, r, _, h => by cases f with
    | zero => simp [text] at h
    | succ f => rfl
  | .bool b, f, r, _, h => by cases f with
    | zero => cases b <;> simp [text] at h
    | succ f => cases b <;> rfl
  | .int n, f, r, hr, h => by cases f with
    | zero => have := text_pos (.int n); omega
    | succ f =>
      obtain ⟨c, t, hc, hcd⟩ := itoa_cons n
      have hI := rdI_full n r hr
      rw [text]
      rw [hc, List.cons_append] at hI ⊢
      exact rdT_i f c _ _ n hcd hI
  | .str s, f, r, _, h => by cases f with
    | zero => have := text_pos (.str s); omega
    | succ f =>
      have e : text (.str s) ++ r = 34 :: (esc s ++ 34 :: r) := by simp [text, quo]
      rw [e]
      exact rdT_s f _ _ s (rdS_esc s r)
  | .list .nil, f, r, _, h => by cases f with
    | zero => have := text_pos (.list .nil); omega
    | succ f => exact rdT_l0 f r
  | .list (.cons v t), f, r, _, h => by cases f with
    | zero => have := text_pos (.list (.cons v t)); omega
    | succ f =>
      have e : text (.list (.cons v t)) ++ r = 91 :: (textL (.cons v t) ++ 93 :: r) := by simp [text]
      rw [text, List.length_cons, List.length_append] at h
      have hf := rdTL_full (.cons v t) f f r (by simp) (by simp at h; omega) (by simp at h; omega)
      obtain ⟨c, w, hc, hne⟩ := text_head v
      have e2 : textL (.cons v t) ++ 93 :: r = c :: (w ++ (moreL t ++ 93 :: r)) := by rw [textL, hc]; simp
      rw [e, e2]
      rw [e2] at hf
      exact rdT_l1 f c _ _ _ hne hf
  | .map .nil, f, r, _, h => by cases f with
    | zero => have := text_pos (.map .nil); omega
    | succ f => exact rdT_m0 f r
  | .map (.cons k v t), f, r, _, h => by cases f with
    | zero => have := text_pos (.map (.cons k v t)); omega
    | succ f =>
      have e : text (.map (.cons k v t)) ++ r = 123 :: (textM (.cons k v t) ++ 125 :: r) := by simp [text]
      rw [text, List.length_cons, List.length_append] at h
      have hf := rdTM_full (.cons k v t) f f r (by simp) (by simp at h; omega) (by simp at h; omega)
      have e2 : textM (.cons k v t) ++ 125 :: r = 34 :: (esc k ++ [34] ++ 58 :: (text v ++ moreM t) ++ 125 :: r) := by rw [textM, quo]; simp
      rw [e, e2]
      rw [e2] at hf
      exact rdT_m1 f 34 _ _ _ (by decide) hf
theorem rdTL_full : ∀ (l : L) (f n : Nat) (r : Txt), l ≠ .nil → (textL l).length ≤ f → (textL l).length ≤ n → rdTL (rdT f) n (textL l ++ 93 :: r) = some (l, r)
  | .nil, f, n, r, h, _, _ => absurd rfl h
  | .cons v t, f, n, r, _, h, hn => by
    have hv := text_pos v
    rw [textL, List.length_append] at h hn
    cases n with
    | zero => omega
    | succ n =>
      rw [rdTL, textL, List.append_assoc]
      cases t with
      | nil =>
        rw [rdT_full v f _ (by rfl) (by omega)]
        simp [moreL]
      | cons v2 t2 =>
        have hm : moreL (.cons v2 t2) = 44 :: textL (.cons v2 t2) := rfl
        rw [hm, List.length_cons] at h hn
        rw [hm, List.cons_append, rdT_full v f _ (by rfl) (by omega)]
        simp only [if_true]
        rw [rdTL_full (.cons v2 t2) f n r (by simp) (by omega) (by omega)]
theorem rdTM_full : ∀ (l : M) (f n : Nat) (r : Txt), l ≠ .nil → (textM l).length ≤ f → (textM l).length ≤ n → rdTM (rdT f) n (textM l ++ 125 :: r) = some (l, r)
  | .nil, f, n, r, h, _, _ => absurd rfl h
  | .cons k v t, f, n, r, _, h, hn => by
    have hv := text_pos v
    rw [textM, List.length_append, List.length_cons, List.length_append] at h hn
    cases n with
    | zero => omega
    | succ n =>
      rw [rdTM, textM, List.append_assoc, List.cons_append, rdK_full]
      simp only
      rw [List.append_assoc]
      cases t with
      | nil =>
        rw [rdT_full v f _ (by rfl) (by omega)]
        simp [moreM]
      | cons k2 v2 t2 =>
        have hm : moreM (.cons k2 v2 t2) = 44 :: textM (.cons k2 v2 t2) := rfl
        rw [hm, List.length_cons] at h hn
        rw [hm, List.cons_append, rdT_full v f _ (by rfl) (by omega)]
        simp only [if_true]
        rw [rdTM_full (.cons k2 v2 t2) f n r (by simp) (by omega) (by omega)]
end
/-- The value of a text. -/
def val (s : Txt) : Option V := match rdT s.length s with
  | some (v, []) => some v
  | _ => none
theorem val_some {s : Txt} {v : V} : val s = some v ↔ s = text v := by
  constructor
  · intro h
    unfold val at h
    split at h
    · rename_i h1
      cases h
      have := rdT_sound h1
      rw [List.append_nil] at this
      exact this
    · cases h
  · rintro rfl
    unfold val
    have := rdT_full v (text v).length [] rfl (Nat.le_refl _)
    rw [List.append_nil] at this
    rw [this]
theorem text_inj {v u : V} (h : text v = text u) : v = u := by
  have h1 := val_some.2 (rfl : text v = text v)
  have h2 := val_some.2 h
  rw [h1] at h2
  exact Option.some.inj h2
end Val
end Go.Proofs.YtegfcmnbljdcpaaGreatDoor

/-
  Plain: the order of values. No program.
-/
namespace Go.Proofs.YtegfcmnbljdcpaaGreatDoor
namespace Val

def ord (a b : Int) : Int := if a < b then -1 else if b < a then 1 else 0
def words (a b : Txt) : Int := if a < b then -1 else if b < a then 1 else 0
def kind : V → Int
  | .null => 1
  | .bool _ => 2
  | .int _ => 3
  | .str _ => 4
  | .list _ => 5
  | .map _ => 6
def b2i (b : Bool) : Int := if b then 1 else 0
/-- Compare, and if it is equal, compare on. -/
def andThen (c d : Int) : Int := if c = 0 then d else c
mutual
def cmp : V → V → Int
  | .null, b => ord 1 (kind b)
  | .bool a, .bool b => ord (b2i a) (b2i b)
  | .bool _, b => ord 2 (kind b)
  | .int a, .int b => ord a b
  | .int _, b => ord 3 (kind b)
  | .str a, .str b => words a b
  | .str _, b => ord 4 (kind b)
  | .list a, .list b => cmpL a b
  | .list _, b => ord 5 (kind b)
  | .map a, .map b => cmpM a b
  | .map _, b => ord 6 (kind b)
def cmpL : L → L → Int
  | .nil, .nil => 0
  | .nil, .cons _ _ => -1
  | .cons _ _, .nil => 1
  | .cons a r, .cons b s => andThen (cmp a b) (cmpL r s)
def cmpM : M → M → Int
  | .nil, .nil => 0
  | .nil, .cons _ _ _ => -1
  | .cons _ _ _, .nil => 1
  | .cons k a r, .cons l b s => andThen (words k l) (andThen (cmp a b) (cmpM r s))
end
/-- What is asked of a comparison: its opposite, when it is 0, and how two of them go together. -/
def Anti (c d : Int) : Prop := d = -c
def Tri (x y z : Int) : Prop := x ≤ 0 → y ≤ 0 → z ≤ 0 ∧ (z = 0 → x = 0 ∧ y = 0)
theorem ord_bd (a b : Int) : ord a b = -1 ∨ ord a b = 0 ∨ ord a b = 1 := by unfold ord; split <;> (try split) <;> simp
theorem ord_anti (a b : Int) : ord b a = -ord a b := by unfold ord; split <;> split <;> (try split) <;> omega
theorem ord_zero {a b : Int} : ord a b = 0 ↔ a = b := by unfold ord; split <;> (try split) <;> omega
theorem ord_tri (a b c : Int) : Tri (ord a b) (ord b c) (ord a c) := by
  unfold Tri ord
  split <;> split <;> split <;> (try split) <;> (try split) <;> (try split) <;> omega
theorem tx_irrefl (x : Txt) : ¬ x < x := List.lt_irrefl x
theorem tx_trans {x y z : Txt} (h : x < y) (k : y < z) : x < z := List.lt_trans h k
theorem tx_conn {x y : Txt} (h : ¬ x < y) (k : ¬ y < x) : x = y := List.le_antisymm (List.not_lt.1 k) (List.not_lt.1 h)
theorem words_bd (a b : Txt) : words a b = -1 ∨ words a b = 0 ∨ words a b = 1 := by unfold words; split <;> (try split) <;> simp
theorem words_neg {a b : Txt} (h : a < b) : words a b = -1 := if_pos h
theorem words_pos {a b : Txt} (h : b < a) : words a b = 1 := by
  unfold words
  rw [if_neg (fun k => tx_irrefl _ (tx_trans h k)), if_pos h]
theorem words_self (a : Txt) : words a a = 0 := by
  unfold words
  rw [if_neg (tx_irrefl a), if_neg (tx_irrefl a)]
theorem words_cases (a b : Txt) : (a < b ∧ words a b = -1) ∨ (a = b ∧ words a b = 0) ∨ (b < a ∧ words a b = 1) := by
  rcases Classical.em (a < b) with h | h
  · exact Or.inl ⟨h, words_neg h⟩
  · rcases Classical.em (b < a) with k | k
    · exact Or.inr (Or.inr ⟨k, words_pos k⟩)
    · obtain rfl := tx_conn h k
      exact Or.inr (Or.inl ⟨rfl, words_self a⟩)
theorem words_anti (a b : Txt) : words b a = -words a b := by
  rcases words_cases a b with ⟨h, e⟩ | ⟨rfl, e⟩ | ⟨h, e⟩
  · rw [e, words_pos h]; rfl
  · rw [e]; rfl
  · rw [e, words_neg h]
theorem words_zero {a b : Txt} : words a b = 0 ↔ a = b := by
  constructor
  · intro h0
    rcases words_cases a b with ⟨h, e⟩ | ⟨rfl, e⟩ | ⟨h, e⟩
    · omega
    · rfl
    · omega
  · rintro rfl
    exact words_self a
theorem words_tri (a b c : Txt) : Tri (words a b) (words b c) (words a c) := by
  intro h1 h2
  rcases words_cases a b with ⟨h, e⟩ | ⟨rfl, e⟩ | ⟨h, e⟩
  · rcases words_cases b c with ⟨k, g⟩ | ⟨rfl, g⟩ | ⟨k, g⟩
    · rw [words_neg (tx_trans h k)]; omega
    · omega
    · omega
  · omega
  · omega
theorem at_bd {c d : Int} (h : c = -1 ∨ c = 0 ∨ c = 1) (k : d = -1 ∨ d = 0 ∨ d = 1) : andThen c d = -1 ∨ andThen c d = 0 ∨ andThen c d = 1 := by
  unfold andThen; split <;> omega
theorem at_anti {c d c' d' : Int} (h : c' = -c) (k : d' = -d) : andThen c' d' = -andThen c d := by
  unfold andThen; split <;> split <;> omega
theorem at_zero {c d : Int} : andThen c d = 0 ↔ c = 0 ∧ d = 0 := by
  unfold andThen; split <;> omega
theorem at_tri {x y z x' y' z' : Int} (h : Tri x y z) (k : Tri x' y' z') (hz : x = 0 → y = 0 → z = 0) : Tri (andThen x x') (andThen y y') (andThen z z') := by
  unfold Tri andThen at *
  split <;> split <;> split <;> intros <;> omega
theorem ord_lt {a b : Int} (h : a < b) : ord a b = -1 := if_pos h
theorem cmp_kind {a b : V} (h : kind a ≠ kind b) : cmp a b = ord (kind a) (kind b) := by
  cases a <;> cases b <;> first | rfl | exact absurd rfl h
theorem kind_bd (a : V) : 1 ≤ kind a ∧ kind a ≤ 6 := by cases a <;> simp [kind]
mutual
theorem cmp_bd : ∀ a b, cmp a b = -1 ∨ cmp a b = 0 ∨ cmp a b = 1
  | .null, b => ord_bd _ _
  | .bool a, b => by cases b <;> exact ord_bd _ _
  | .int a, b => by cases b <;> exact ord_bd _ _
  | .str a, b => by cases b <;> first | exact ord_bd _ _ | exact words_bd _ _
  | .list a, b => by cases b <;> first | exact cmpL_bd a _ | exact ord_bd _ _
  | .map a, b => by cases b <;> first | exact cmpM_bd a _ | exact ord_bd _ _
theorem cmpL_bd : ∀ a b, cmpL a b = -1 ∨ cmpL a b = 0 ∨ cmpL a b = 1
  | .nil, .nil => Or.inr (Or.inl rfl)
  | .nil, .cons _ _ => Or.inl rfl
  | .cons _ _, .nil => Or.inr (Or.inr rfl)
  | .cons a r, .cons b s => by rw [cmpL]; exact at_bd (cmp_bd a b) (cmpL_bd r s)
theorem cmpM_bd : ∀ a b, cmpM a b = -1 ∨ cmpM a b = 0 ∨ cmpM a b = 1
  | .nil, .nil => Or.inr (Or.inl rfl)
  | .nil, .cons _ _ _ => Or.inl rfl
  | .cons _ _ _, .nil => Or.inr (Or.inr rfl)
  | .cons k a r, .cons l b s => by rw [cmpM]; exact at_bd (words_bd k l) (at_bd (cmp_bd a b) (cmpM_bd r s))
end
mutual
theorem cmp_anti : ∀ a b, cmp b a = -cmp a b
  | .null, b => by cases b <;> rfl
  | .bool a, b => by cases b <;> first | exact ord_anti _ _ | rfl
  | .int a, b => by cases b <;> first | exact ord_anti _ _ | rfl
  | .str a, b => by cases b <;> first | rfl | exact words_anti _ _
  | .list a, b => by cases b <;> first | exact cmpL_anti a _ | rfl
  | .map a, b => by cases b <;> first | exact cmpM_anti a _ | rfl
theorem cmpL_anti : ∀ a b, cmpL b a = -cmpL a b
  | .nil, .nil => rfl
  | .nil, .cons _ _ => rfl
  | .cons _ _, .nil => rfl
  | .cons a r, .cons b s => by rw [cmpL, cmpL]; exact at_anti (cmp_anti a b) (cmpL_anti r s)
theorem cmpM_anti : ∀ a b, cmpM b a = -cmpM a b
  | .nil, .nil => rfl
  | .nil, .cons _ _ _ => rfl
  | .cons _ _ _, .nil => rfl
  | .cons k a r, .cons l b s => by rw [cmpM, cmpM]; exact at_anti (words_anti k l) (at_anti (cmp_anti a b) (cmpM_anti r s))
end
theorem b2i_inj {a b : Bool} (h : b2i a = b2i b) : a = b := by cases a <;> cases b <;> simp_all [b2i]
mutual
theorem cmp_zero : ∀ a b, cmp a b = 0 → a = b
  | .null, b => by cases b <;> first | (intro; rfl) | (intro h; exact absurd (ord_zero.1 h) (by simp [kind]))
  | .bool a, b => by cases b <;> first | (intro h; rw [b2i_inj (ord_zero.1 h)]) | (intro h; exact absurd (ord_zero.1 h) (by simp [kind]))
  | .int a, b => by cases b <;> first | (intro h; rw [ord_zero.1 h]) | (intro h; exact absurd (ord_zero.1 h) (by simp [kind]))
  | .str a, b => by cases b <;> first | (intro h; rw [words_zero.1 h]) | (intro h; exact absurd (ord_zero.1 h) (by simp [kind]))
  | .list a, b => by cases b <;> first | (intro h; rw [cmpL_zero a _ h]) | (intro h; exact absurd (ord_zero.1 h) (by simp [kind]))
  | .map a, b => by cases b <;> first | (intro h; rw [cmpM_zero a _ h]) | (intro h; exact absurd (ord_zero.1 h) (by simp [kind]))
theorem cmpL_zero : ∀ a b, cmpL a b = 0 → a = b
  | .nil, .nil, _ => rfl
  | .nil, .cons _ _, h => absurd h (by simp [cmpL])
  | .cons _ _, .nil, h => absurd h (by simp [cmpL])
  | .cons a r, .cons b s, h => by
    rw [cmpL, at_zero] at h
    rw [cmp_zero a b h.1, cmpL_zero r s h.2]
theorem cmpM_zero : ∀ a b, cmpM a b = 0 → a = b
  | .nil, .nil, _ => rfl
  | .nil, .cons _ _ _, h => absurd h (by simp [cmpM])
  | .cons _ _ _, .nil, h => absurd h (by simp [cmpM])
  | .cons k a r, .cons l b s, h => by
    rw [cmpM, at_zero, at_zero] at h
    rw [words_zero.1 h.1, cmp_zero a b h.2.1, cmpM_zero r s h.2.2]
end
theorem cmp_self (a : V) : cmp a a = 0 := by
  have := cmp_anti a a
  omega
theorem cmp_mix {a b c : V} (h : kind a ≠ kind b ∨ kind b ≠ kind c) : Tri (cmp a b) (cmp b c) (cmp a c) := by
  intro h1 h2
  by_cases hab : kind a = kind b
  · by_cases hbc : kind b = kind c
    · exact absurd h (by simp [hab, hbc])
    · have e2 := cmp_kind hbc
      have e3 := cmp_kind (a := a) (b := c) (by rw [hab]; exact hbc)
      rw [hab] at e3
      rw [e3, ← e2]
      have : cmp b c ≠ 0 := fun e => hbc (ord_zero.1 (e2 ▸ e))
      omega
  · have e1 := cmp_kind hab
    by_cases hbc : kind b = kind c
    · have e3 := cmp_kind (a := a) (b := c) (by rw [← hbc]; exact hab)
      rw [← hbc] at e3
      rw [e3, ← e1]
      have : cmp a b ≠ 0 := fun e => hab (ord_zero.1 (e1 ▸ e))
      omega
    · have e2 := cmp_kind hbc
      rw [e1] at h1
      rw [e2] at h2
      have n1 : ord (kind a) (kind b) ≠ 0 := fun e => hab (ord_zero.1 e)
      have n2 : ord (kind b) (kind c) ≠ 0 := fun e => hbc (ord_zero.1 e)
      have l1 : kind a < kind b := by
        unfold ord at h1 n1
        split at h1
        · assumption
        · split at h1 <;> omega
      have l2 : kind b < kind c := by
        unfold ord at h2 n2
        split at h2
        · assumption
        · split at h2 <;> omega
      rw [cmp_kind (a := a) (b := c) (by omega), ord_lt (by omega)]
      omega
theorem ord_zz {a b c : Int} (h : ord a b = 0) (k : ord b c = 0) : ord a c = 0 := by
  rw [ord_zero] at *
  omega
theorem cmp_zz {a b c : V} (h : cmp a b = 0) (k : cmp b c = 0) : cmp a c = 0 := by
  rw [cmp_zero a b h, cmp_zero b c k]
  exact cmp_self c
theorem words_zz {a b c : Txt} (h : words a b = 0) (k : words b c = 0) : words a c = 0 := by
  rw [words_zero.1 h, words_zero.1 k]
  exact words_self c
theorem cmpM_self (a : M) : cmpM a a = 0 := by
  have := cmpM_anti a a
  omega
mutual
theorem cmp_tri : ∀ a b c, Tri (cmp a b) (cmp b c) (cmp a c)
  | .null, b, c => by
    cases b <;> cases c <;> first | exact ord_tri _ _ _ | exact cmp_mix (by simp [kind])
  | .bool a, b, c => by cases b <;> cases c <;> first | exact ord_tri _ _ _ | exact cmp_mix (by simp [kind])
  | .int a, b, c => by cases b <;> cases c <;> first | exact ord_tri _ _ _ | exact cmp_mix (by simp [kind])
  | .str a, b, c => by cases b <;> cases c <;> first | exact words_tri _ _ _ | exact cmp_mix (by simp [kind])
  | .list a, b, c => by cases b <;> cases c <;> first | exact cmpL_tri a _ _ | exact cmp_mix (by simp [kind])
  | .map a, b, c => by cases b <;> cases c <;> first | exact cmpM_tri a _ _ | exact cmp_mix (by simp [kind])
theorem cmpL_tri : ∀ a b c, Tri (cmpL a b) (cmpL b c) (cmpL a c)
  | .nil, b, c => by
    cases b <;> cases c <;> simp [cmpL, Tri]
  | .cons a r, .nil, c => by cases c <;> simp [cmpL, Tri]
  | .cons a r, .cons b s, .nil => by simp [cmpL, Tri]
  | .cons a r, .cons b s, .cons c t => by
    rw [cmpL, cmpL, cmpL]
    exact at_tri (cmp_tri a b c) (cmpL_tri r s t) cmp_zz
theorem cmpM_tri : ∀ a b c, Tri (cmpM a b) (cmpM b c) (cmpM a c)
  | .nil, b, c => by
    cases b <;> cases c <;> simp [cmpM, Tri]
  | .cons k a r, .nil, c => by cases c <;> simp [cmpM, Tri]
  | .cons k a r, .cons l b s, .nil => by simp [cmpM, Tri]
  | .cons k a r, .cons l b s, .cons m c t => by
    rw [cmpM, cmpM, cmpM]
    exact at_tri (words_tri k l m) (at_tri (cmp_tri a b c) (cmpM_tri r s t) cmp_zz) words_zz
end
end Val
end Go.Proofs.YtegfcmnbljdcpaaGreatDoor

/-
  Layer 6: cells in memory; the reference's Plain, key, after.
-/
namespace Go.Proofs.YtegfcmnbljdcpaaGreatDoor
open Go.RowKit
namespace Val

theorem toL (s : ByteArray) : s.toList = s.data.toList := Go.ByteArray.toList_eq s
theorem toL_len (s : ByteArray) : s.toList.length = s.size := by rw [toL]; simp
theorem toL_get (s : ByteArray) (k : Nat) (h : k < s.size) : s.toList[k]'(by rw [toL_len]; exact h) = s[k] := by simp only [toL]; rfl
theorem tl (l : Txt) : (⟨l.toArray⟩ : ByteArray).toList = l := Go.ByteArray.toList_mk _
theorem str_back (s : ByteArray) : (⟨s.toList.toArray⟩ : ByteArray) = s := by rw [toL]
/-- A cell at a place of memory. -/
def CAt (w : World) (b o : Nat) (c : Cel) : Prop := w.cell? ⟨b, o, none⟩ = some (.int .i64 c.k) ∧ w.cell? ⟨b, o + 1, none⟩ = some (.int .i64 c.i) ∧ w.cell? ⟨b, o + 2, none⟩ = some (.string ⟨c.s.toArray⟩) ∧ w.cell? ⟨b, o + 3, none⟩ = some (.int .i64 c.n)
theorem CAt.on {w w' : World} {b o : Nat} {c : Cel} (h : CAt w b o c) (g : Bel w w') : CAt w' b o c :=
  ⟨g.cell' h.1, g.cell' h.2.1, g.cell' h.2.2.1, g.cell' h.2.2.2⟩
/-- The integers of a cell fit, and its string is a string of memory. -/
def Fits (c : Cel) : Prop := (-9223372036854775808 ≤ c.k ∧ c.k ≤ 9223372036854775807) ∧ (-9223372036854775808 ≤ c.i ∧ c.i ≤ 9223372036854775807) ∧ (-9223372036854775808 ≤ c.n ∧ c.n ≤ 9223372036854775807) ∧ c.s.length ≤ 140737488355328
/-- A slice of cells, as a walk reads it. -/
def CArg (w : World) (o : Option Addr) (n : Nat) (l : List Cel) : Prop := l.length = n ∧ (∀ c ∈ l, Fits c) ∧ (0 < n → ∃ b off, o = some ⟨b, off, none⟩ ∧ ∀ i (h : i < l.length), CAt w b (off + i * 4) l[i])
theorem CArg.on {w w' : World} {o : Option Addr} {n : Nat} {l : List Cel} (h : CArg w o n l) (g : Bel w w') : CArg w' o n l :=
  ⟨h.1, h.2.1, fun hn => let ⟨b, off, e, k⟩ := h.2.2 hn; ⟨b, off, e, fun i hi => (k i hi).on g⟩⟩
theorem CArg.nil (w : World) (o : Option Addr) : CArg w o 0 [] := ⟨rfl, fun c h => (by cases h), fun h => absurd h (Nat.lt_irrefl 0)⟩
theorem after_any (b : Bool) (i : Int) (hi : 0 ≤ i) (hi2 : i ≤ 4611686018427387904) (w : World) :
    Calls Tryz.prog 54 #[.bool b, .int .i64 i] w fun e w' => e = .returned (.int .i64 (if b then i + 1 else -1)) ∧ w = w' := by
  cases b
  all_goals
    go_enter Tryz.func54, Tryz.ntmps54
    go_wp2
    go_ret
    exact ⟨rfl, rfl⟩
theorem plain_step (s : ByteArray) (k : Nat) (h : k < s.size) : (s.toList.drop k).all plainC = (plainC s[k] && (s.toList.drop (k + 1)).all plainC) := by
  have hl : k < s.toList.length := by rw [toL_len]; exact h
  rw [List.drop_eq_getElem_cons hl, toL_get s k h, List.all_cons]
theorem plainC_byte (c : UInt8) : plainC c = (!decide ((c.toNat : Int) < 32) && !decide (126 < (c.toNat : Int))) := by
  unfold plainC
  rw [Bool.eq_iff_iff]
  simp
  omega
theorem plain_any (s : ByteArray) (hs : s.size ≤ maxLen) (w : World) :
    Calls Tryz.prog 82 #[.string s] w fun e w' => e = .returned (.bool (plain s.toList)) ∧ w = w' := by
  unfold maxLen at hs
  go_enter Tryz.func82, Tryz.ntmps82
  go_wp2
  go_loop [3] (fun i => ∃ k : Nat, i = .int .i64 (k : Int) ∧ k ≤ s.size ∧ Hid ((s.toList.drop k).all plainC = plain s.toList)) (fun i => s.size - (intOf i).toNat)
  case atStart => exact ⟨0, rfl, Nat.zero_le _, Lib.hid rfl⟩
  case round =>
    obtain ⟨k, rfl, hk, hr⟩ := hrel
    by_cases hlt : k < s.size
    · have hst := plain_step s k hlt
      rw [plainC_byte] at hst
      by_cases h1 : (s[k].toNat : Int) < 32
      · have hz := Lib.hid (hr.out.symm.trans (hst.trans (by simp [h1])) : plain s.toList = false)
        clear hst hr
        go_wp2
        go_ret
        exact ⟨by rw [hz.out]; rfl, rfl⟩
      · by_cases h2 : 126 < (s[k].toNat : Int)
        · have hz := Lib.hid (hr.out.symm.trans (hst.trans (by simp [h1, h2])) : plain s.toList = false)
          clear hst hr
          go_wp2
          go_ret
          exact ⟨by rw [hz.out]; rfl, rfl⟩
        · have hz : Hid ((s.toList.drop (k + 1)).all plainC = plain s.toList) := Lib.hid (by
            rw [← hr.out, hst]
            simp [h1, h2])
          clear hst hr
          go_wp2
          go_round
          case rel => exact ⟨k + 1, by go_num, by omega, hz⟩
          case measure => simp [intOf]; omega
    · obtain rfl : k = s.size := by omega
      have hz := Lib.hid (hr.out.symm.trans (by rw [List.drop_of_length_le (by rw [toL_len]; omega)]; rfl) : plain s.toList = true)
      clear hr
      go_wp2
      go_ret
      exact ⟨by rw [hz.out]; rfl, rfl⟩
set_option maxHeartbeats 400000 in
theorem key_any (k i n : Int) (s : ByteArray) (hs : s.size ≤ maxLen) (w : World) :
    Calls Tryz.prog 55 #[.agg #[.int .i64 k, .int .i64 i, .string s, .int .i64 n]] w fun e w' => e = .returned (.bool (keyC ⟨k, i, s.toList, n⟩)) ∧ Bel w w' := by
  have HP := Lib.hid (plain_any s hs)
  have hz := Lib.hid (show keyC ⟨k, i, s.toList, n⟩ = (k == 4 && i == 0 && n == 0 && plain s.toList) from rfl)
  generalize keyC ⟨k, i, s.toList, n⟩ = r at hz ⊢
  generalize plain s.toList = b at HP hz
  by_cases h1 : k = 4
  · by_cases h2 : i = 0
    · by_cases h3 : n = 0
      · subst h1 h2 h3
        go_enter Tryz.func55, Tryz.ntmps55
        go_wp2_with (go_at_call 82; ((with_reducible refine (HP.out _).mono ?_); rintro e w' ⟨rfl, rfl⟩))
        go_ret
        exact ⟨by rw [hz.out]; rfl, Bel.alloc (Bel.refl _) _⟩
      · have hb : (n == 0) = false := by simpa using h3
        have hz2 := Lib.hid (hz.out.trans (by rw [hb]; simp) : r = false)
        subst h1 h2
        clear h3
        go_enter Tryz.func55, Tryz.ntmps55
        go_wp2
        go_ret
        exact ⟨by rw [hz2.out]; rfl, Bel.alloc (Bel.refl _) _⟩
    · have hb : (i == 0) = false := by simpa using h2
      have hz2 := Lib.hid (hz.out.trans (by rw [hb]; simp) : r = false)
      subst h1
      clear h2
      go_enter Tryz.func55, Tryz.ntmps55
      go_wp2
      go_ret
      exact ⟨by rw [hz2.out]; rfl, Bel.alloc (Bel.refl _) _⟩
  · have hb : (k == 4) = false := by simpa using h1
    have hz2 := Lib.hid (hz.out.trans (by rw [hb]; simp) : r = false)
    clear h1
    go_enter Tryz.func55, Tryz.ntmps55
    go_wp2
    go_ret
    exact ⟨by rw [hz2.out]; rfl, Bel.alloc (Bel.refl _) _⟩
end Val
end Go.Proofs.YtegfcmnbljdcpaaGreatDoor

/-
  What the cell 'laid' of layer 6's short rows gives; one world that fits.
-/
namespace Go.Proofs.YtegfcmnbljdcpaaGreatDoor
open Go.RowKit Go.ChangeShapes

/-- The list of the other rows. -/
def laidS : List (String × DataW Unit) := [("unicode/utf8.acceptRanges", Rows.laid_unicode_utf8_acceptRanges), ("unicode/utf8.first", Rows.laid_unicode_utf8_first)]
noncomputable def laidWorldS (os : Os) : World := World.laidAll Tryz.prog os laidS
theorem laidWorldS_os (os : Os) : (laidWorldS os).os = os := World.laidAll_os _ _ _
theorem laidWorldS_met (os : Os) (args : Array Value) : laidMetH Tryz.prog laidS ((laidWorldS os).forCall (fun _ _ => 0) ⟨#[], args, []⟩).memory := by
  rw [MakeChecks.laidMetH_plain _ _ _ (by kernel_rfl)]
  exact laidMet_laidAll _ (by kernel_rfl) (by kernel_rfl)
theorem wf_i64 {a : Int} (h : (Lit.int .i64 a).wf = true) : -9223372036854775808 ≤ a ∧ a ≤ 9223372036854775807 := by
  have e1 : IntKind.i64.min = -9223372036854775808 := rfl
  have e2 : IntKind.i64.max = 9223372036854775807 := rfl
  simp [Lit.wf, e1, e2] at h
  omega
theorem wf_u64 {a : Int} (h : (Lit.int .u64 a).wf = true) : ∃ n : Nat, a = (n : Int) ∧ n < 18446744073709551616 := by
  have e1 : IntKind.u64.min = 0 := rfl
  have e2 : IntKind.u64.max = 18446744073709551615 := rfl
  simp [Lit.wf, e1, e2] at h
  exact ⟨a.toNat, by omega, by omega⟩
theorem laidOut : laidOutB Tryz.prog = true := by kernel_rfl
end Go.Proofs.YtegfcmnbljdcpaaGreatDoor

/-
  What the cell 'laid' of the rows of layer 6 gives: the tables; one world that fits.
-/
namespace Go.Proofs.YtegfcmnbljdcpaaGreatDoor
open Go.RowKit Go.ChangeShapes

/-- The list of the rows whose code writes decimal numbers. -/
def laidL : List (String × DataW Unit) := [("math/bits.deBruijn32tab", Rows.laid_math_bits_deBruijn32tab), ("math/bits.deBruijn64tab", Rows.laid_math_bits_deBruijn64tab), ("internal/strconv.uint64pow10", Rows.laid_internal_strconv_uint64pow10), ("unicode/utf8.acceptRanges", Rows.laid_unicode_utf8_acceptRanges), ("unicode/utf8.first", Rows.laid_unicode_utf8_first)]
theorem gTz : Tryz.prog.globalNamed "math/bits.deBruijn64tab" = some 5 := by kernel_rfl
theorem gTzT : (Tryz.prog.globals[5]?).map (·.type) = some 138 := by kernel_rfl
theorem gPowT : (Tryz.prog.globals[0]?).map (·.type) = some 125 := by kernel_rfl
theorem cells_u8 : Tryz.prog.cellsOf 5 = 1 := by kernel_rfl
theorem cells_u64 : Tryz.prog.cellsOf 96 = 1 := by kernel_rfl
theorem cells_tz : Tryz.prog.cellsOf 138 = 64 := by kernel_rfl
theorem cells_pow : Tryz.prog.cellsOf 125 = 20 := by kernel_rfl
def tab64 : List Int := [0, 1, 56, 2, 57, 49, 28, 3, 61, 58, 42, 50, 38, 29, 17, 4, 62, 47, 59, 36, 45, 43, 51, 22, 53, 39, 33, 30, 24, 18, 12, 5, 63, 55, 48, 27, 60, 41, 37, 16, 46, 35, 44, 21, 52, 32, 23, 11, 54, 26, 40, 15, 34, 20, 31, 10, 25, 14, 19, 9, 13, 8, 7, 6]
theorem lad_of {W : World} (h : laidMetH Tryz.prog laidL W) : Lad W := by
  rw [MakeChecks.laidMetH_plain _ _ _ (by kernel_rfl)] at h
  have h1 := h.tail
  have h2 := h1.tail
  have z : Lib.TabIs Tryz.prog W "math/bits.deBruijn64tab" .u8 tab64 := Lib.tabIs_of_head gTz gTzT Tryz.underlying138 Tryz.underlying5 cells_u8 cells_tz h1
  have p : Lib.TabIs Tryz.prog W "internal/strconv.uint64pow10" .u64 Lib.pow10Tab := Lib.tabIs_of_head gPow gPowT Tryz.underlying125 Tryz.underlying96 cells_u64 cells_pow h2
  refine ⟨trivial, p, ?_⟩
  have := z.cell gTz 15 (by decide)
  exact this
/-- One world that fits. -/
noncomputable def laidWorld (os : Os) : World := World.laidAll Tryz.prog os laidL
theorem laidWorld_os (os : Os) : (laidWorld os).os = os := World.laidAll_os _ _ _
theorem laidWorld_met (os : Os) (args : Array Value) : laidMetH Tryz.prog laidL ((laidWorld os).forCall (fun _ _ => 0) ⟨#[], args, []⟩).memory := by
  rw [MakeChecks.laidMetH_plain _ _ _ (by kernel_rfl)]
  exact laidMet_laidAll _ (by kernel_rfl) (by kernel_rfl)
end Go.Proofs.YtegfcmnbljdcpaaGreatDoor

/-
  Slices of cells as arguments of a law.
-/
namespace Go.Proofs.YtegfcmnbljdcpaaGreatDoor
open Go.RowKit Go.ChangeShapes Go.WideShapes Go.Deep
namespace Val

/-- A cell, as an argument is read. -/
def celD {H : Type} (c : Cel) : DataW H := .agg [.lit (.int .i64 c.k), .lit (.int .i64 c.i), .lit (.string c.s), .lit (.int .i64 c.n)]
theorem wf_bds {a : Int} (h : (Lit.int .i64 a).wf = true) : -9223372036854775808 ≤ a ∧ a ≤ 9223372036854775807 := by
  have e1 : IntKind.i64.min = -9223372036854775808 := rfl
  have e2 : IntKind.i64.max = 9223372036854775807 := rfl
  simp [Lit.wf, e1, e2] at h
  omega
section
variable {H : Type} {enc : TypeId × Value → H} {w : World} {base : Nat} {spare : Nat → Bool} {held : Bool}
set_option maxRecDepth 100000 in
theorem cell_trod {n : Nat} {cs : List Value} {y : DataW H × List MemPlace} (h : DataW.trod enc Tryz.prog w base spare held n 43 cs = some y) :
    ∃ c : Cel, cs = [.int .i64 c.k, .int .i64 c.i, .string ⟨c.s.toArray⟩, .int .i64 c.n] ∧ y.1 = celD c ∧ (-9223372036854775808 ≤ c.k ∧ c.k ≤ 9223372036854775807) ∧ (-9223372036854775808 ≤ c.i ∧ c.i ≤ 9223372036854775807) ∧ (-9223372036854775808 ≤ c.n ∧ c.n ≤ 9223372036854775807) := by
  obtain ⟨xs, m, -, rfl, hl, hx, hf⟩ := DataW.trod_struct Tryz.underlying43 h
  have hc4 : Tryz.prog.cellsOf 43 = 4 := by kernel_rfl
  have hxl : xs.length = 4 := hx
  rw [hc4] at hl
  match cs, hl with
  | [u0, u1, u2, u3], _ =>
    match xs, hxl with
    | [x0, x1, x2, x3], _ =>
      have k1 : Tryz.prog.cellsOf 41 = 1 := by kernel_rfl
      have k2 : Tryz.prog.cellsOf 3 = 1 := by kernel_rfl
      have k3 : Tryz.prog.cellsOf 9 = 1 := by kernel_rfl
      have h0 : DataW.trod enc Tryz.prog w base spare held m 41 (([u0, u1, u2, u3].drop 0).take (Tryz.prog.cellsOf 41)) = [x0, x1, x2, x3][0]? := hf 0 _ rfl
      have h1 : DataW.trod enc Tryz.prog w base spare held m 3 (([u0, u1, u2, u3].drop 1).take (Tryz.prog.cellsOf 3)) = [x0, x1, x2, x3][1]? := hf 1 _ rfl
      have h2 : DataW.trod enc Tryz.prog w base spare held m 9 (([u0, u1, u2, u3].drop 2).take (Tryz.prog.cellsOf 9)) = [x0, x1, x2, x3][2]? := hf 2 _ rfl
      have h3 : DataW.trod enc Tryz.prog w base spare held m 3 (([u0, u1, u2, u3].drop 3).take (Tryz.prog.cellsOf 3)) = [x0, x1, x2, x3][3]? := hf 3 _ rfl
      rw [k1] at h0
      rw [k2] at h1 h3
      rw [k3] at h2
      obtain ⟨a0, e0, rfl, w0⟩ := DataW.trod_int Tryz.underlying41 h0
      obtain ⟨a1, e1, rfl, w1⟩ := DataW.trod_int Tryz.underlying3 h1
      obtain ⟨a2, e2, rfl, w2⟩ := DataW.trod_string Tryz.underlying9 h2
      obtain ⟨a3, e3, rfl, w3⟩ := DataW.trod_int Tryz.underlying3 h3
      simp only [List.drop_zero, List.drop_succ_cons, List.take_succ_cons, List.take_zero, List.cons.injEq, and_true] at e0 e1 e2 e3
      refine ⟨⟨a0, a1, a2.data.toList, a3⟩, ?_, rfl, wf_bds w0, wf_bds w1, wf_bds w3⟩
      simp only [e0, e1, e2, e3]
end
/-- Cells as an argument is read: whatever their strings' lengths. -/
def CRaw (w : World) (o : Option Addr) (n : Nat) (l : List Cel) : Prop := l.length = n ∧ (∀ c ∈ l, (-9223372036854775808 ≤ c.k ∧ c.k ≤ 9223372036854775807) ∧ (-9223372036854775808 ≤ c.i ∧ c.i ≤ 9223372036854775807) ∧ (-9223372036854775808 ≤ c.n ∧ c.n ≤ 9223372036854775807)) ∧ (0 < n → ∃ b off, o = some ⟨b, off, none⟩ ∧ ∀ i (h : i < l.length), CAt w b (off + i * 4) l[i])
theorem CRaw.arg {w : World} {o : Option Addr} {n : Nat} {l : List Cel} (h : CRaw w o n l) (hs : ∀ c ∈ l, c.s.length ≤ 140737488355328) : CArg w o n l :=
  ⟨h.1, fun c hc => ⟨(h.2.1 c hc).1, (h.2.1 c hc).2.1, (h.2.1 c hc).2.2, hs c hc⟩, h.2.2⟩
theorem spot_none {w : World} {a : Addr} {v : Value} (h : w.cell? a = some v) : a.spot = none := by
  unfold World.cell? at h
  split at h
  · split at h
    · cases h
    · next hs => simpa using hs
  · cases h
theorem add_none {b off k : Nat} : (⟨b, off, none⟩ : Addr).add k = ⟨b, off + k, none⟩ := by
  unfold Addr.add
  split
  · next h => subst h; rfl
  · rfl
set_option maxRecDepth 100000 in
theorem cells_open {H : Type} {enc : TypeId × Value → H} {w : World} {held : Bool} {fuel : Nat} {cs : List Value} {x : DataW H × List MemPlace} {t : TypeId} (ht : Tryz.prog.underlying t = some (.slice 43))
    (h : DataW.trod enc Tryz.prog w 0 (fun _ => true) held fuel t cs = some x) :
    ∃ (o : Option Addr) (n c : Nat) (l : List Cel), cs = [.slice o n c] ∧ CRaw w o n l ∧ ((n = 0 ∧ x.1 = .nil) ∨ ∃ sp, x.1 = .slice (l.map celD) sp) ∧ n ≤ c ∧ c ≤ maxLen := by
  have hc4 : Tryz.prog.cellsOf 43 = 4 := by kernel_rfl
  rcases open_slice ht h with ⟨rfl, rfl⟩ | ⟨a, len, cap, m, n', D, Pl, rfl, hb, hl, hm, hmm, rfl, hi⟩
  · exact ⟨none, 0, 0, [], rfl, ⟨rfl, fun c hc => (by cases hc), fun h0 => absurd h0 (Nat.lt_irrefl 0)⟩, Or.inl ⟨rfl, rfl⟩, Nat.le_refl _, by decide⟩
  · simp only [if_true] at hmm
    subst hmm
    have each : ∀ i, i < m → ∃ c : Cel, D i = celD c ∧ ((-9223372036854775808 ≤ c.k ∧ c.k ≤ 9223372036854775807) ∧ (-9223372036854775808 ≤ c.i ∧ c.i ≤ 9223372036854775807) ∧ (-9223372036854775808 ≤ c.n ∧ c.n ≤ 9223372036854775807)) ∧ a.spot = none ∧ CAt w a.block (a.off + i * 4) c := fun i him => by
      obtain ⟨cs', hcs, htr⟩ := hi i him
      obtain ⟨c, rfl, hd, b1, b2, b3⟩ := cell_trod htr
      obtain ⟨-, -, hat⟩ := World.cells?_some hcs
      rw [hc4] at hat
      have q0 := hat 0 (by omega)
      have q1 := hat 1 (by omega)
      have q2 := hat 2 (by omega)
      have q3 := hat 3 (by omega)
      have hsp : a.spot = none := by
        by_cases hi0 : i = 0
        · subst hi0
          have e : (a.add (0 * 4)).add 0 = a := by unfold Addr.add; simp
          rw [e] at q0
          exact spot_none q0
        · cases ha : a.spot with
          | none => rfl
          | some z =>
            exfalso
            obtain ⟨cs0, hcs0, htr0⟩ := hi 0 (by omega)
            obtain ⟨c0, rfl, -⟩ := cell_trod htr0
            obtain ⟨-, -, hat0⟩ := World.cells?_some hcs0
            rw [hc4] at hat0
            have r0 := hat0 0 (by omega)
            have e : (a.add (0 * 4)).add 0 = a := by unfold Addr.add; simp
            rw [e] at r0
            have := spot_none r0
            rw [ha] at this
            cases this
      refine ⟨c, hd, ⟨b1, b2, b3⟩, hsp, ?_⟩
      obtain ⟨ab, ao, asp⟩ := a
      simp only at hsp
      subst hsp
      rw [add_none, add_none] at q0 q1 q2 q3
      exact ⟨q0, q1, q2, q3⟩
    obtain ⟨f, hf⟩ : ∃ f : Nat → Cel, ∀ i, i < m → D i = celD (f i) ∧ ((-9223372036854775808 ≤ (f i).k ∧ (f i).k ≤ 9223372036854775807) ∧ (-9223372036854775808 ≤ (f i).i ∧ (f i).i ≤ 9223372036854775807) ∧ (-9223372036854775808 ≤ (f i).n ∧ (f i).n ≤ 9223372036854775807)) ∧ a.spot = none ∧ CAt w a.block (a.off + i * 4) (f i) :=
      ⟨fun i => if h : i < m then Classical.choose (each i h) else ⟨0, 0, [], 0⟩, fun i hi => by simp only [dif_pos hi]; exact Classical.choose_spec (each i hi)⟩
    refine ⟨some a, len, m, (List.range len).map f, rfl, ⟨by simp, fun c hc => ?_, fun h0 => ?_⟩, Or.inr ⟨(List.range (m - len)).map fun j => D (len + j), ?_⟩, hl, hm⟩
    · obtain ⟨i, hi', rfl⟩ := List.mem_map.1 hc
      rw [List.mem_range] at hi'
      exact (hf i (by omega)).2.1
    · obtain ⟨ab, ao, asp⟩ := a
      have hsp := (hf 0 (by omega)).2.2.1
      simp only at hsp
      subst hsp
      refine ⟨ab, ao, rfl, fun i hi' => ?_⟩
      have hil : i < len := by simpa using hi'
      have := (hf i (by omega)).2.2.2
      simpa using this
    · simp only [DataW.slice.injEq, and_true, List.map_map]
      refine List.map_congr_left fun i hi' => ?_
      rw [List.mem_range] at hi'
      exact (hf i (by omega)).1
theorem cells_arg {H : Type} {enc : TypeId × Value → H} {W : World} {o : Option Addr} {n c : Nat} {d : DataW H} {ps : List MemPlace} {t : TypeId}
    (h : DataW.Trod enc Tryz.prog W 0 (fun _ => true) true t (.slice o n c) d ps) (ht : Tryz.prog.underlying t = some (.slice 43)) :
    ∃ l : List Cel, CRaw W o n l ∧ (n = 0 ∨ ∃ sp, d = .slice (l.map celD) sp) ∧ n ≤ c ∧ c ≤ maxLen := by
  obtain ⟨fuel, hf⟩ := h
  obtain ⟨o', n', c', l, hcs, hr, hd, hl, hm⟩ := cells_open ht hf
  simp [Value.cells] at hcs
  obtain ⟨rfl, rfl, rfl⟩ := hcs
  refine ⟨l, hr, ?_, hl, hm⟩
  rcases hd with ⟨h0, _⟩ | ⟨sp, h1⟩
  · exact Or.inl h0
  · exact Or.inr ⟨sp, h1⟩
/-- A string of a cell of an argument is of memory. -/
theorem sized_cells {H : Type} {ts : List TypeId} {ds : List (DataW H)} (h : (DataW.weightsEach Tryz.prog ts ds).all (· ≤ reachBytes) = true) {j : Nat} {t : TypeId} {l : List Cel} {sp : List (DataW H)} (ht : ts[j]? = some t) (hd : ds[j]? = some (.slice (l.map celD) sp))
    (hu : Tryz.prog.underlying t = some (.slice 43)) : ∀ x ∈ l, x.s.length ≤ 140737488355328 := fun x hx => by
  have one : x.s.length ∈ (celD x : DataW H).weights Tryz.prog 43 := by
    unfold celD
    simp only [DataW.weights, Tryz.underlying43]
    simp [DataW.weightsEach, DataW.weights]
  have all : ∀ l : List Cel, x ∈ l → x.s.length ∈ DataW.weightsAll Tryz.prog 43 (l.map celD : List (DataW H)) := by
    intro l
    induction l with
    | nil => intro h; cases h
    | cons y r ih =>
      intro h
      rw [List.map_cons, DataW.weightsAll, List.mem_append]
      rcases List.mem_cons.1 h with rfl | h
      · exact Or.inl one
      · exact Or.inr (ih h)
  have hm := DataW.weights_mem_each (P := Tryz.prog) ht hd x.s.length (by
    simp only [DataW.weights, hu, List.mem_cons, List.mem_append]
    exact Or.inr (Or.inl (all l hx)))
  have h1 := List.all_eq_true.1 h _ hm
  have h2 := reachBytes_lt
  have h4 : (2 : Nat) ^ 47 = 140737488355328 := by decide
  simp only [decide_eq_true_eq] at h1
  omega
end Val
end Go.Proofs.YtegfcmnbljdcpaaGreatDoor
