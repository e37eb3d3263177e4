/-
  Layer 8, texts merged: SynM, SynA, SynB, SynN, SynO, SynP, SynQ, SynR, SynS, SynT, SynU, SynV, SynW, SynX, SynY, SynZ, SzA, SzB, SzC, SzD, SzE, SzF, SzG, SzH. For every argument within the bounds that each theorem names.
-/
import Derived.Test.YtcapkeaedpabjaaGreatDoorWB1
import Derived.OneCell
import Derived.Laws.OwnMore
import Derived.Deep.AppendLies
import Derived.Deep.DeepCutAuto
import Derived.Deep.RegionHeld3
import Derived.Deep.RegionLaw
import Derived.Deep.RegionWith
import Derived.Deep.QuietTactic
import Derived.Deep.LoopGhost
import Derived.BigQuiet
import Derived.Lib.Hide
import Derived.StillTailTactics
import Derived.Defers
import Derived.Recover
import Derived.Test.YtcapkeaedpabjaaGreatDoorShelf
import Derived.WalkSmall
import Derived.Laws.Cover1

/-
 Layer 8: worlds in which some blocks change; rows that one owns.
-/
namespace Go.Proofs.YtcapkeaedpabjaaGreatDoor
open Go.RowKit Go.ChangeShapes Go.WideShapes
namespace Syn

/-- All blocks but those in F are as they were. -/
structure Mod (F : Nat → Prop) (w w' : World) : Prop where
 os : w'.os = w.os
 tape : w'.tape = w.tape
 output : w'.output = w.output
 size : w.heap.size ≤ w'.heap.size
 block : ∀ k, k < w.heap.size → ¬ F k → w'.heap[k]? = w.heap[k]?
theorem Mod.refl (F : Nat → Prop) (w : World) : Mod F w w := ⟨rfl, rfl, rfl, Nat.le_refl _, fun _ _ _ => rfl⟩
theorem Mod.trans {F G : Nat → Prop} {a b c : World} (h : Mod F a b) (k : Mod G b c) (hG : ∀ i, G i → F i ∨ a.heap.size ≤ i) : Mod F a c :=
 ⟨k.os.trans h.os, k.tape.trans h.tape, k.output.trans h.output, Nat.le_trans h.size k.size, fun i hi hf => (k.block i (Nat.lt_of_lt_of_le hi h.size) (fun g => (hG i g).elim hf (fun e => by omega))).trans (h.block i hi hf)⟩
theorem Mod.weak {F G : Nat → Prop} {a b : World} (h : Mod F a b) (hG : ∀ i, F i → G i) : Mod G a b := ⟨h.os, h.tape, h.output, h.size, fun i hi hf => h.block i hi (fun k => hf (hG i k))⟩
theorem Mod.of_bel {F : Nat → Prop} {a b : World} (h : Bel a b) : Mod F a b := ⟨h.os, h.tape, h.output, h.size, fun i hi _ => h.block i hi⟩
theorem Mod.bel {F : Nat → Prop} {a b : World} (h : Mod F a b) (hF : ∀ i, F i → a.heap.size ≤ i) : Bel a b := ⟨h.os, h.tape, h.output, h.size, fun i hi => h.block i hi (fun k => by have := hF i k; omega)⟩
/-- What is old to a, when the changes are of blocks that are new to a. -/
theorem Mod.bel_of {F : Nat → Prop} {a b c : World} (g : Bel a b) (h : Mod F b c) (hF : ∀ i, F i → a.heap.size ≤ i) : Bel a c :=
 ⟨h.os.trans g.os, h.tape.trans g.tape, h.output.trans g.output, Nat.le_trans g.size h.size, fun i hi => (h.block i (Nat.lt_of_lt_of_le hi g.size) (fun k => by have := hF i k; omega)).trans (g.block i hi)⟩
theorem Mod.grown {F : Nat → Prop} {a b : World} {row : Option Nat} (h : a.grownBy b row) (hF : ∀ i, row = some i → F i) : Mod F a b :=
 ⟨h.os, h.tape, h.output, h.size, fun i hi hf => h.block i hi (fun e => hf (hF i e.symm))⟩
theorem Mod.alloc {F : Nat → Prop} {a b : World} (h : Mod F a b) (o : Obj) : Mod F a (b.alloc o) :=
 h.trans (Mod.of_bel (F := F) (Bel.alloc (Bel.refl b) o)) (fun _ g => Or.inl g)
theorem Mod.drew {F : Nat → Prop} {a b : World} (h : Mod F a b) : Mod F a b.drew := ⟨h.os, h.tape, h.output, h.size, h.block⟩
theorem Mod.setCell {F : Nat → Prop} {a b : World} (h : Mod F a b) {p : Addr} (hp : F p.block ∨ a.heap.size ≤ p.block) (u : Value) : Mod F a (b.setCell p u) :=
 ⟨h.os, h.tape, h.output, by show a.heap.size ≤ (b.setCell p u).heap.size; simpa [World.setCell] using h.size, fun i hi hf => (Below.heap_setCell _ _ _ _ (fun e => by subst e; exact hp.elim hf (fun e => by omega))).trans (h.block i hi hf)⟩
theorem Mod.cell {F : Nat → Prop} {w w' : World} (h : Mod F w w') {p : Addr} {v : Value} (hc : w.cell? p = some v) (hp : ¬ F p.block) : w'.cell? p = some v :=
 (World.cell?_of_block (h.block p.block (cell_lt' hc) hp)).trans hc
theorem own_kept {F : Nat → Prop} {w w' : World} {base : Nat} {e : TypeId} {z : Nat} {v : Value} {n : Nat} {xs : List Value} (h : w.ownsRow base e z v n xs) (g : Mod F w w') (hv : ∀ b, v.ownBlock = some b → ¬ F b) : w'.ownsRow base e z v n xs := by
 refine ⟨h.1, ?_⟩
 rcases h.2 with h2 | ⟨b, cap, cur, rfl, hb, hc, r⟩
 ·exact Or.inl h2
 ·exact Or.inr ⟨b, cap, cur, rfl, hb, (g.block b (lt_of_block hc) (hv b rfl)).trans hc, r⟩
theorem own_take {w : World} {base : Nat} {e : TypeId} {z : Nat} {o : Option Addr} {n c m : Nat} {xs : List Value} (h : w.ownsRow base e z (.slice o n c) n xs) (hm : m ≤ n) : w.ownsRow base e z (.slice o m c) m (xs.take (m * z)) := by
 have hmz : m * z ≤ n * z := Nat.mul_le_mul_right z hm
 refine ⟨by rw [List.length_take, h.1]; omega, ?_⟩
 rcases h.2 with ⟨hv, h2⟩ | ⟨g, cap, cur, hv, hg, hc, h1, h2, h3, h4⟩
 ·simp only [Value.slice.injEq] at hv
  obtain ⟨rfl, rfl, rfl⟩ := hv
  obtain rfl : m = 0 := by omega
  exact Or.inl ⟨rfl, rfl⟩
 ·simp only [Value.slice.injEq] at hv
  obtain ⟨rfl, -, rfl⟩ := hv
  exact Or.inr ⟨g, c, cur, rfl, hg, hc, by omega, h2, h3, by rw [← h4, List.take_take, Nat.min_eq_left hmz]⟩
theorem own_cell {w : World} {base : Nat} {e : TypeId} {z : Nat} {o : Option Addr} {n c : Nat} {xs : List Value} (h : w.ownsRow base e z (.slice o n c) n xs) {b off : Nat} (ho : o = some ⟨b, off, none⟩) {j : Nat} {u : Value} (hj : xs[j]? = some u) : w.cell? ⟨b, j, none⟩ = some u := by
 have := h.cells (g := b) (by rw [ho]; rfl) j u hj
 rw [Lib.add_plain] at this
 simpa using this
/-- Where what is owned lies. -/
theorem own_at {w : World} {base : Nat} {e : TypeId} {z : Nat} {o : Option Addr} {n c : Nat} {xs : List Value} (h : w.ownsRow base e z (.slice o n c) n xs) (hn : 0 < n) : ∃ b, o = some ⟨b, 0, none⟩ ∧ base ≤ b ∧ b < w.heap.size ∧ n ≤ c := by
 rcases h.2 with ⟨hv, h2⟩ | ⟨g, cap, cur, hv, hg, hc, h1, _⟩
 ·omega
 ·simp only [Value.slice.injEq] at hv
  obtain ⟨rfl, -, rfl⟩ := hv
  exact ⟨g, rfl, hg, lt_of_block hc, h1⟩

/-- What a slice of one's own lies in. -/
def Blk (o : Option Addr) (k : Nat) : Prop := ∃ off, o = some ⟨k, off, none⟩
theorem blk_of {w : World} {base : Nat} {e : TypeId} {z : Nat} {o : Option Addr} {n c : Nat} {xs : List Value} (h : w.ownsRow base e z (.slice o n c) n xs) {k : Nat} : Blk o k ↔ (Value.slice o n c).ownBlock = some k := by
 rcases h.2 with ⟨hv, _⟩ | ⟨g, cap, cur, hv, _⟩
 ·simp only [Value.slice.injEq] at hv
  obtain ⟨rfl, -, -⟩ := hv
  simp [Blk, Value.ownBlock]
 ·simp only [Value.slice.injEq] at hv
  obtain ⟨rfl, -, -⟩ := hv
  simp [Blk, Value.ownBlock]
theorem own_belz {w w' : World} {base : Nat} {e : TypeId} {z : Nat} {v : Value} {n : Nat} {xs : List Value} (h : w.ownsRow base e z v n xs) (g : Bel w w') : w'.ownsRow base e z v n xs :=
 own_kept (F := fun _ => False) h (Mod.of_bel g) (fun _ _ h => h)
end Syn
end Go.Proofs.YtcapkeaedpabjaaGreatDoor

/-
 Layer 8, plainly: trees of a program's nodes, and the rows of nodes that they lie in.
-/
namespace Go.Proofs.YtcapkeaedpabjaaGreatDoor
namespace Syn
abbrev Txt := List UInt8
/-- A node of a program, as its fields are. -/
structure Nd where
 k : Int
 s : Txt
 i : Int
 keys : List Txt
 kids : List Int
deriving DecidableEq
mutual
inductive T
 | node (k : Int) (s : Txt) (i : Int) (keys : List Txt) (kids : Ts)
inductive Ts
 | nil
 | cons (t : T) (r : Ts)
end
mutual
def size : T → Nat
 | .node _ _ _ _ ts => sizes ts + 1
def sizes : Ts → Nat
 | .nil => 0
 | .cons t r => size t + sizes r
end
mutual
def height : T → Nat
 | .node _ _ _ _ ts => heights ts + 1
def heights : Ts → Nat
 | .nil => 0
 | .cons t r => max (height t) (heights r)
end
/-- The places of parts, the first of which begins at b. -/
def roots : Nat → Ts → List Int
 | _, .nil => []
 | b, .cons t r => ((b + size t - 1 : Nat) : Int) :: roots (b + size t) r
mutual
/-- The row of nodes of a tree that begins at place b. -/
def flat : Nat → T → List Nd
 | b, .node k s i keys ts => flats b ts ++ [⟨k, s, i, keys, roots b ts⟩]
def flats : Nat → Ts → List Nd
 | _, .nil => []
 | b, .cons t r => flat b t ++ flats (b + size t) r
end
theorem size_pos : ∀ t, 0 < size t
 | .node _ _ _ _ _ => Nat.succ_pos _
mutual
theorem flat_len : ∀ (t : T) (b : Nat), (flat b t).length = size t
 | .node _ _ _ _ ts, b => by rw [flat, size, List.length_append, flats_len ts b]; rfl
theorem flats_len : ∀ (ts : Ts) (b : Nat), (flats b ts).length = sizes ts
 | .nil, _ => rfl
 | .cons t r, b => by rw [flats, sizes, List.length_append, flat_len t b, flats_len r]
end
theorem roots_bd : ∀ (ts : Ts) (b : Nat) (x : Int), x ∈ roots b ts → (b : Int) ≤ x ∧ x < ((b + sizes ts : Nat) : Int)
 | .nil, b, x, h => by cases h
 | .cons t r, b, x, h => by
  rw [roots] at h
  rw [sizes]
  have hp := size_pos t
  rcases List.mem_cons.1 h with rfl | h
  ·omega
  ·have := roots_bd r _ _ h
   omega
/-- The last node of a tree's row is its own. -/
def top : T → Nat → Nd
 | .node k s i keys ts, b => ⟨k, s, i, keys, roots b ts⟩
theorem flat_top (t : T) (b : Nat) : (flat b t).getLast? = some (top t b) := by
 cases t
 rw [flat, top]
 simp
theorem flat_at (t : T) (b : Nat) : (flat b t)[size t - 1]? = some (top t b) := by
 have h := flat_top t b
 rw [List.getLast?_eq_getElem?, flat_len] at h
 exact h
def count : Ts → Nat
 | .nil => 0
 | .cons _ r => count r + 1
theorem roots_len : ∀ (ts : Ts) (b : Nat), (roots b ts).length = count ts
 | .nil, _ => rfl
 | .cons _ r, b => by rw [roots, count, List.length_cons, roots_len r]
/-- Parts behind parts. -/
def app : Ts → Ts → Ts
 | .nil, u => u
 | .cons t r, u => .cons t (app r u)
theorem roots_app : ∀ (a b : Ts) (p : Nat), roots p (app a b) = roots p a ++ roots (p + sizes a) b
 | .nil, b, p => by rw [app, sizes, roots, List.nil_append, Nat.add_zero]
 | .cons t r, b, p => by rw [app, roots, roots, roots_app r, sizes, List.cons_append, Nat.add_assoc]
/-- The trees that lie side by side, the last one first: how many nodes they have, and their row. -/
def fsum : List T → Nat
 | [] => 0
 | t :: s => fsum s + size t
def flatS (b : Nat) : List T → List Nd
 | [] => []
 | t :: s => flatS b s ++ flat (b + fsum s) t
theorem flatS_len (b : Nat) : ∀ s, (flatS b s).length = fsum s
 | [] => rfl
 | t :: s => by rw [flatS, fsum, List.length_append, flatS_len b s, flat_len]
/-- Trees put on top of others, one after another. -/
def stk : Ts → List T → List T
 | .nil, st => st
 | .cons t r, st => stk r (t :: st)
theorem fsum_stk : ∀ us st, fsum (stk us st) = fsum st + sizes us
 | .nil, _ => rfl
 | .cons t r, st => by rw [stk, fsum_stk r, fsum, sizes, Nat.add_assoc]
end Syn
end Go.Proofs.YtcapkeaedpabjaaGreatDoor

/-
 Layer 8, plainly: the reader of programs, on tokens.
-/
namespace Go.Proofs.YtcapkeaedpabjaaGreatDoor
namespace Syn
/-- A token without its place. -/
abbrev Ck := Int × Txt × Int
def hd : List Ck → Ck
 | [] => (0, [], 0)
 | c :: _ => c
/-- The token is one of these keywords or symbols. -/
def inT (ss : List Txt) (c : Ck) : Bool := (c.1 == 2 || c.1 == 5) && ss.contains c.2.1
def isT (s : Txt) (c : Ck) : Bool := inT [s] c
/-- What a part of the reader comes to: what it read and what is left, or what is left where no program goes on. -/
inductive RR (α : Type) where
 | ok (x : α) (r : List Ck)
 | bad (r : List Ck)
def snoc (a : Ts) (t : T) : Ts := app a (.cons t .nil)
def bin (s : Txt) (a b : T) : T := .node 9 s 0 [] (.cons a (.cons b .nil))
def una (s : Txt) (a : T) : T := .node 8 s 0 [] (.cons a .nil)
def idx (a b : T) : T := .node 10 [] 0 [] (.cons a (.cons b .nil))
def leaf (k : Int) (s : Txt) (i : Int) : T := .node k s i [] .nil
/-- The operators of a level. -/
def opsL : Nat → List Txt
 | 1 => [[111, 114]]
 | 2 => [[97, 110, 100]]
 | 4 => [[61, 61], [33, 61], [60], [60, 61], [62], [62, 61]]
 | 5 => [[43], [45]]
 | 6 => [[42], [47], [37]]
 | _ => []
/-- One string is not behind another one, by their bytes. -/
def leqT (a b : Txt) : Bool := Op.bytesLess a b || a == b
/-- A string token that may follow these keys. -/
def keyB (ks : List Txt) (c : Ck) : Bool := c.1 == 4 && (match ks.getLast? with | none => true | some l => !leqT c.2.1 l)
mutual
/-- An expression of a level: or 1, and 2, not 3, comparisons 4, sums 5, products 6, minus 7, indexed 8, the rest 9. -/
def rdE : Nat → Nat → List Ck → RR T
 | 0, _, r => .bad r
 | n + 1, l, r =>
  if l = 3 then
   if isT [110, 111, 116] (hd r) then
    match rdE n 3 r.tail with
    | .ok t r' => .ok (una [110, 111, 116] t) r'
    | .bad r' => .bad r'
   else rdE n 4 r
  else if l = 4 then
   match rdE n 5 r with
   | .ok t r' =>
    if inT (opsL 4) (hd r') then
     match rdE n 5 r'.tail with
     | .ok u r2 => .ok (bin (hd r').2.1 t u) r2
     | .bad r2 => .bad r2
    else .ok t r'
   | .bad r' => .bad r'
  else if l = 7 then
   if isT [45] (hd r) then
    match rdE n 7 r.tail with
    | .ok t r' => .ok (una [45] t) r'
    | .bad r' => .bad r'
   else rdE n 8 r
  else if l = 8 then
   match rdE n 9 r with
   | .ok t r' => pst n t r'
   | .bad r' => .bad r'
  else if l = 9 then prm n r
  else
   match rdE n (l + 1) r with
   | .ok t r' => chn n l t r'
   | .bad r' => .bad r'
/-- Operators of a level and their right operands, behind a left one. -/
def chn : Nat → Nat → T → List Ck → RR T
 | 0, _, _, r => .bad r
 | n + 1, l, t, r =>
  if inT (opsL l) (hd r) then
   match rdE n (l + 1) r.tail with
   | .ok u r' => chn n l (bin (hd r).2.1 t u) r'
   | .bad r' => .bad r'
  else .ok t r
/-- Indices behind a value. -/
def pst : Nat → T → List Ck → RR T
 | 0, _, r => .bad r
 | n + 1, t, r =>
  if isT [91] (hd r) then
   match rdE n 1 r.tail with
   | .ok u r' => if isT [93] (hd r') then pst n (idx t u) r'.tail else .bad r'
   | .bad r' => .bad r'
  else .ok t r
def prm : Nat → List Ck → RR T
 | 0, r => .bad r
 | n + 1, r =>
  if (hd r).1 = 3 then .ok (leaf 3 [] (hd r).2.2) r.tail
  else if (hd r).1 = 4 then .ok (leaf 4 (hd r).2.1 0) r.tail
  else if (hd r).1 = 1 then
   if isT [40] (hd r.tail) then
    match rdL n [41] r.tail.tail with
    | .ok ts r' => .ok (.node 11 (hd r).2.1 0 [] ts) r'
    | .bad r' => .bad r'
   else .ok (leaf 5 (hd r).2.1 0) r.tail
  else if (hd r).1 = 6 then
   if isT [40] (hd r.tail) then
    match rdL n [41] r.tail.tail with
    | .ok ts r' => .ok (.node 12 (hd r).2.1 0 [] ts) r'
    | .bad r' => .bad r'
   else .bad r.tail
  else if isT [110, 117, 108, 108] (hd r) then .ok (leaf 1 [] 0) r.tail
  else if isT [102, 97, 108, 115, 101] (hd r) then .ok (leaf 2 [] 0) r.tail
  else if isT [116, 114, 117, 101] (hd r) then .ok (leaf 2 [] 1) r.tail
  else if isT [91] (hd r) then
   match rdL n [93] r.tail with
   | .ok ts r' => .ok (.node 6 [] 0 [] ts) r'
   | .bad r' => .bad r'
  else if isT [123] (hd r) then
   if isT [125] (hd r.tail) then .ok (.node 7 [] 0 [] .nil) r.tail.tail
   else
    match rdQ n [] .nil r.tail with
    | .ok x r' => .ok (.node 7 [] 0 x.1 x.2) r'
    | .bad r' => .bad r'
  else if isT [40] (hd r) then
   match rdE n 1 r.tail with
   | .ok t r' => if isT [41] (hd r') then .ok t r'.tail else .bad r'
   | .bad r' => .bad r'
  else .bad r
/-- Expressions up to a closing symbol, behind the opening one. -/
def rdL : Nat → Txt → List Ck → RR Ts
 | 0, _, r => .bad r
 | n + 1, cl, r => if isT cl (hd r) then .ok .nil r.tail else rdI n cl .nil r
def rdI : Nat → Txt → Ts → List Ck → RR Ts
 | 0, _, _, r => .bad r
 | n + 1, cl, acc, r =>
  match rdE n 1 r with
  | .ok t r' => if isT [44] (hd r') then rdI n cl (snoc acc t) r'.tail else if isT cl (hd r') then .ok (snoc acc t) r'.tail else .bad r'
  | .bad r' => .bad r'
/-- Keys and values up to a closing brace. -/
def rdQ : Nat → List Txt → Ts → List Ck → RR (List Txt × Ts)
 | 0, _, _, r => .bad r
 | n + 1, ks, acc, r =>
  if keyB ks (hd r) then
   if isT [58] (hd r.tail) then
    match rdE n 1 r.tail.tail with
    | .ok t r' => if isT [44] (hd r') then rdQ n (ks ++ [(hd r).2.1]) (snoc acc t) r'.tail else if isT [125] (hd r') then .ok (ks ++ [(hd r).2.1], snoc acc t) r'.tail else .bad r'
    | .bad r' => .bad r'
   else .bad r.tail
  else .bad r
end
/-- A function. -/
structure Fu where
 name : Txt
 params : List Txt
 body : T
end Syn
end Go.Proofs.YtcapkeaedpabjaaGreatDoor

/-
 Layer 8: tokens and nodes in memory; the reader's state, as the program has it.
-/
namespace Go.Proofs.YtcapkeaedpabjaaGreatDoor
open Go.RowKit Go.ChangeShapes Go.WideShapes
namespace Syn

def bz (s : Txt) : ByteArray := ⟨s.toArray⟩
/-- A token at a place of memory. -/
def TokAt (w : World) (b o : Nat) (c : Ck) (a : Int) : Prop := w.cell? ⟨b, o, none⟩ = some (.int .i64 c.1) ∧ w.cell? ⟨b, o + 1, none⟩ = some (.string ⟨c.2.1.toArray⟩) ∧ w.cell? ⟨b, o + 2, none⟩ = some (.int .i64 c.2.2) ∧ w.cell? ⟨b, o + 3, none⟩ = some (.int .i64 a)
theorem TokAt.same {w w' : World} {b o : Nat} {c : Ck} {a : Int} (h : TokAt w b o c a) (e : w'.heap[b]? = w.heap[b]?) : TokAt w' b o c a :=
 ⟨(World.cell?_of_block (a := ⟨b, o, none⟩) e).trans h.1, (World.cell?_of_block (a := ⟨b, o + 1, none⟩) e).trans h.2.1, (World.cell?_of_block (a := ⟨b, o + 2, none⟩) e).trans h.2.2.1, (World.cell?_of_block (a := ⟨b, o + 3, none⟩) e).trans h.2.2.2⟩
theorem TokAt.lt {w : World} {b o : Nat} {c : Ck} {a : Int} (h : TokAt w b o c a) : b < w.heap.size := cell_lt' h.1
/-- A slice of integers. -/
def ZArg (w : World) (o : Option Addr) (n : Nat) (l : List Int) : Prop := l.length = n ∧ ∀ i (h : i < l.length), ∃ a, o = some a ∧ w.cell? (a.add i) = some (.int .i64 l[i])
theorem ZArg.on {w w' : World} {o : Option Addr} {n : Nat} {l : List Int} (h : ZArg w o n l) (b : Bel w w') : ZArg w' o n l :=
 ⟨h.1, fun i hi => let ⟨a, e, c⟩ := h.2 i hi; ⟨a, e, b.cell' c⟩⟩
theorem ZArg.nil (w : World) (o : Option Addr) : ZArg w o 0 [] := ⟨rfl, fun i h => absurd h (Nat.not_lt_zero i)⟩
/-- A slice of strings. -/
def KArg (w : World) (o : Option Addr) (n : Nat) (l : List Txt) : Prop := SlArg w o n (l.map bz)
theorem KArg.nil (w : World) (o : Option Addr) : KArg w o 0 [] := ⟨rfl, fun i h => absurd h (Nat.not_lt_zero i)⟩
theorem add_block (a : Addr) (i : Nat) : (a.add i).block = a.block := by
 unfold Addr.add
 split <;> rfl
/-- A node as its values are. -/
structure Nv where
 k : Int
 s : Txt
 i : Int
 ko : Option Addr
 kn : Nat
 kc : Nat
 jo : Option Addr
 jn : Nat
 jc : Nat
def encV (v : Nv) : List Value := [.int .i64 v.k, .string ⟨v.s.toArray⟩, .int .i64 v.i, .slice v.ko v.kn v.kc, .slice v.jo v.jn v.jc]
def encVs (l : List Nv) : List Value := l.flatMap encV
theorem encV_len (c : Nv) : (encV c).length = 5 := rfl
theorem encVs_len (l : List Nv) : (encVs l).length = l.length * 5 := by
 induction l with
 | nil => rfl
 | cons c r ih =>
  show (encV c ++ encVs r).length = _
  rw [List.length_append, ih, encV_len, List.length_cons]
  omega
theorem encVs_app (a b : List Nv) : encVs (a ++ b) = encVs a ++ encVs b := by simp [encVs]
theorem encVs_one (c : Nv) : encVs [c] = encV c := by simp [encVs]
theorem encVs_get {l : List Nv} {i j : Nat} (h : i < l.length) (hj : j < 5) : (encVs l)[i * 5 + j]? = (encV l[i])[j]? := by
 have e : encVs l = encVs (l.take i) ++ (encV l[i] ++ encVs (l.drop (i + 1))) := by
  rw [← encVs_one l[i], ← encVs_app, ← encVs_app]
  congr 1
  rw [List.singleton_append, ← List.drop_eq_getElem_cons h, List.take_append_drop]
 have hl : (encVs (l.take i)).length = i * 5 := by rw [encVs_len, List.length_take, Nat.min_eq_left (by omega)]
 rw [e, List.getElem?_append_right (by omega), hl, List.getElem?_append_left (by rw [encV_len]; omega)]
 congr 1
 omega
/-- The blocks that a node's slices lie in. -/
def Uses (v : Nv) (b : Nat) : Prop := (∃ a, v.ko = some a ∧ 0 < v.kn ∧ a.block = b) ∨ (∃ a, v.jo = some a ∧ 0 < v.jn ∧ a.block = b)
/-- The values of a node. -/
structure NFit (w : World) (v : Nv) (x : Nd) : Prop where
 k : v.k = x.k
 s : v.s = x.s
 i : v.i = x.i
 keys : KArg w v.ko v.kn x.keys
 kids : ZArg w v.jo v.jn x.kids
 kc : v.kn ≤ v.kc
 jc : v.jn ≤ v.jc
theorem NFit.lt {w : World} {v : Nv} {x : Nd} (h : NFit w v x) {b : Nat} (u : Uses v b) : b < w.heap.size := by
 rcases u with ⟨a, e, hp, rfl⟩ | ⟨a, e, hp, rfl⟩
 ·obtain ⟨a', e', c⟩ := h.keys.2 0 (by have := h.keys.1; omega)
  rw [e] at e'
  cases e'
  have := cell_lt' c
  rwa [add_block] at this
 ·obtain ⟨a', e', c⟩ := h.kids.2 0 (by have := h.kids.1; omega)
  rw [e] at e'
  cases e'
  have := cell_lt' c
  rwa [add_block] at this
theorem NFit.mod {F : Nat → Prop} {w w' : World} {v : Nv} {x : Nd} (h : NFit w v x) (m : Mod F w w') (hF : ∀ b, Uses v b → ¬ F b) : NFit w' v x :=
 ⟨h.k, h.s, h.i, ⟨h.keys.1, fun i hi => by
   obtain ⟨a, e, c⟩ := h.keys.2 i hi
   exact ⟨a, e, m.cell c (by rw [add_block]; exact hF _ (Or.inl ⟨a, e, by have := h.keys.1; omega, rfl⟩))⟩⟩,
  ⟨h.kids.1, fun i hi => by
   obtain ⟨a, e, c⟩ := h.kids.2 i hi
   exact ⟨a, e, m.cell c (by rw [add_block]; exact hF _ (Or.inr ⟨a, e, by have := h.kids.1; omega, rfl⟩))⟩⟩, h.kc, h.jc⟩
theorem NFit.on {w w' : World} {v : Nv} {x : Nd} (h : NFit w v x) (g : Bel w w') : NFit w' v x := h.mod (Mod.of_bel (F := fun _ => False) g) (fun _ _ k => k)
/-- A row of nodes of one's own, whose slices lie outside of S. -/
def NOwn (S : Nat → Prop) (w : World) (base : Nat) (o : Option Addr) (n c : Nat) (L : List Nd) : Prop :=
 ∃ vs : List Nv, w.ownsRow base 65 5 (.slice o n c) n (encVs vs) ∧ vs.length = L.length ∧ (∀ i (h : i < L.length) (h' : i < vs.length), NFit w vs[i] L[i]) ∧ ∀ v ∈ vs, ∀ b, Uses v b → ¬ S b ∧ ¬ Blk o b
theorem NOwn.nil (S : Nat → Prop) (w : World) (base : Nat) : NOwn S w base none 0 0 [] := ⟨[], World.ownsRow_nil _ _ _ _, rfl, fun i h => absurd h (Nat.not_lt_zero i), fun v h => by cases h⟩
theorem NOwn.num {S : Nat → Prop} {w : World} {base : Nat} {o : Option Addr} {n c : Nat} {L : List Nd} (h : NOwn S w base o n c L) : L.length = n := by
 obtain ⟨vs, h1, h2, -⟩ := h
 have := h1.1
 rw [encVs_len] at this
 omega
theorem NOwn.blk {S : Nat → Prop} {w : World} {base : Nat} {o : Option Addr} {n c : Nat} {L : List Nd} (h : NOwn S w base o n c L) {k : Nat} (hk : Blk o k) : base ≤ k ∧ k < w.heap.size := by
 obtain ⟨vs, h1, -⟩ := h
 exact h1.lt k ((blk_of h1).1 hk)
theorem nfit_of {w : World} {L : List Nd} {vs : List Nv} (h2 : vs.length = L.length) (h3 : ∀ i (h : i < L.length) (h' : i < vs.length), NFit w vs[i] L[i]) {v : Nv} (hv : v ∈ vs) : ∃ x, NFit w v x := by
 obtain ⟨i, hi, rfl⟩ := List.mem_iff_getElem.1 hv
 exact ⟨_, h3 i (by omega) hi⟩
/-- It stays where blocks change that it doesn't lie in. -/
theorem NOwn.mod {S F : Nat → Prop} {w w' : World} {base : Nat} {o : Option Addr} {n c : Nat} {L : List Nd} (h : NOwn S w base o n c L) (m : Mod F w w') (hF : ∀ b, F b → S b) (hB : ∀ b, Blk o b → ¬ F b) : NOwn S w' base o n c L := by
 obtain ⟨vs, h1, h2, h3, h4⟩ := h
 refine ⟨vs, own_kept h1 m (fun b hb => hB b ((blk_of h1).2 hb)), h2, fun i a a' => (h3 i a a').mod m fun b hb k => (h4 _ (List.getElem_mem a') b hb).1 (hF b k), h4⟩
theorem NOwn.on {S : Nat → Prop} {w w' : World} {base : Nat} {o : Option Addr} {n c : Nat} {L : List Nd} (h : NOwn S w base o n c L) (g : Bel w w') : NOwn S w' base o n c L :=
 h.mod (Mod.of_bel (F := fun _ => False) g) (fun _ k => k.elim) (fun _ _ k => k)
/-- More blocks that its slices don't lie in. -/
theorem NOwn.wide {S S' : Nat → Prop} {w : World} {base : Nat} {o : Option Addr} {n c : Nat} {L : List Nd} (h : NOwn S w base o n c L) (hS : ∀ b, S' b → S b ∨ w.heap.size ≤ b) : NOwn S' w base o n c L := by
 obtain ⟨vs, h1, h2, h3, h4⟩ := h
 refine ⟨vs, h1, h2, h3, fun v hv b hb => ⟨fun k => ?_, (h4 v hv b hb).2⟩⟩
 obtain ⟨x, hx⟩ := nfit_of h2 h3 hv
 rcases hS b k with k | k
 ·exact (h4 v hv b hb).1 k
 ·have := hx.lt hb
  omega
/-- A node behind the others. -/
theorem NOwn.app {S : Nat → Prop} {Y w' : World} {base m c : Nat} {p : Option Addr} {L : List Nd} (h : NOwn S Y base p m c L) {v : Nv} {x : Nd} (hv : NFit Y v x) (hu : ∀ b, Uses v b → ¬ S b ∧ ¬ Blk p b)
  (hw : ∀ vs, Y.ownsRow base 65 5 (.slice p m c) m (encVs vs) → ∃ o3 c3, w'.ownsRow base 65 5 (.slice o3 (m + 1) c3) (m + 1) (encVs vs ++ encV v) ∧ Y.grownBy w' (Value.ownBlock (.slice p m c)) ∧ (Value.ownBlock (.slice o3 (m + 1) c3) = Value.ownBlock (.slice p m c) ∨ Value.ownBlock (.slice o3 (m + 1) c3) = some Y.heap.size)) : ∃ o3 c3, NOwn S w' base o3 (m + 1) c3 (L ++ [x]) := by
 obtain ⟨vs, h1, h2, h3, h4⟩ := h
 obtain ⟨o3, c3, h5, g, hat⟩ := hw vs h1
 have hm : Mod (fun k => Blk p k) Y w' := Mod.grown g (fun i hi => (blk_of h1).2 hi)
 have far : ∀ (u : Nv) (y : Nd), NFit Y u y → (∀ b, Uses u b → ¬ S b ∧ ¬ Blk p b) → ∀ b, Uses u b → ¬ S b ∧ ¬ Blk o3 b := fun u y hf hq b hb => by
  refine ⟨(hq b hb).1, fun k => ?_⟩
  have k1 := (blk_of h5).1 k
  rcases hat with hat | hat
  ·rw [hat] at k1
   exact (hq b hb).2 ((blk_of h1).2 k1)
  ·rw [hat] at k1
   have := hf.lt hb
   have := Option.some.inj k1
   omega
 refine ⟨o3, c3, vs ++ [v], by rw [encVs_app, encVs_one]; exact h5, by simp [h2], fun i a a' => ?_, fun u hu' => ?_⟩
 ·rcases Nat.lt_or_ge i vs.length with hi | hi
  ·rw [List.getElem_append_left hi, List.getElem_append_left (by omega)]
   exact (h3 i (by omega) hi).mod hm fun b hb => (h4 _ (List.getElem_mem hi) b hb).2
  ·have e : i = vs.length := by simp at a'; omega
   subst e
   have e2 : (vs ++ [v])[vs.length] = v := by simp
   have e3 : (L ++ [x])[vs.length] = x := by simp [h2]
   rw [e2, e3]
   exact hv.mod hm fun b hb => (hu b hb).2
 ·rcases List.mem_append.1 hu' with hu' | hu'
  ·obtain ⟨y, hy⟩ := nfit_of h2 h3 hu'
   exact far u y hy (h4 u hu')
  ·rw [List.mem_singleton.1 hu']
   exact far v x hv hu
/-- What stays while a text is read: the reader's block, its tokens, the end. -/
structure Cx where
 g : Nat
 base : Nat
 tb : Nat
 cap : Nat
 T : List (Ck × Int)
 z : Int
def Cx.tok (x : Cx) (p : Nat) : Ck × Int := (x.T[p]?).getD ((0, [], 0), x.z)
def Cx.at (x : Cx) (p : Nat) : List Ck := (x.T.drop p).map Prod.fst
/-- The reader's tokens: those from place p on. -/
structure TS (x : Cx) (p : Nat) (w : World) : Prop where
 tok : ∃ m d, w.cell? ⟨x.g, 0, none⟩ = some (.slice (some ⟨x.tb, p * 4, none⟩) (m + 1) (d + 1)) ∧ m + p = x.T.length ∧ m ≤ d ∧ d + 1 + p = x.cap
 tks : ∀ i, i ≤ x.T.length → TokAt w x.tb (i * 4) (x.tok i).1 (x.tok i).2
 fz : ∀ j, w.frozen? ⟨x.g, j, none⟩ = false
 len : x.T.length ≤ 1000
 ne : x.tb ≠ x.g
theorem TS.mod {F : Nat → Prop} {x : Cx} {p : Nat} {w w' : World} (h : TS x p w) (m : Mod F w w') (h1 : ¬ F x.g) (h2 : ¬ F x.tb) : TS x p w' := by
 obtain ⟨m0, d, c, e⟩ := h.tok
 have hg : w'.heap[x.g]? = w.heap[x.g]? := m.block _ (cell_lt' c) h1
 exact ⟨⟨m0, d, m.cell c h1, e⟩, fun i hi => (h.tks i hi).same (m.block _ (h.tks i hi).lt h2), fun j => (World.frozen?_of_block (a := ⟨x.g, j, none⟩) hg).trans (h.fz j), h.len, h.ne⟩
/-- The reader: its tokens and the nodes that it has. -/
structure RS (x : Cx) (S : Nat → Prop) (p : Nat) (o : Option Addr) (n c : Nat) (L : List Nd) (w : World) : Prop where
 ts : TS x p w
 nod : w.cell? ⟨x.g, 1, none⟩ = some (.slice o n c)
 own : NOwn S w x.base o n c L
 lt : x.g < x.base ∧ x.tb < x.base ∧ x.base ≤ w.heap.size
 sg : S x.g
 sl : ∀ b, S b → b < w.heap.size ∧ ¬ Blk o b
 np : n ≤ p
theorem TS.pos {x : Cx} {p : Nat} {w : World} (h : TS x p w) : p ≤ x.T.length := by
 obtain ⟨m, d, -, e, -⟩ := h.tok
 omega
/-- What becomes of the world while the reader goes on. -/
structure RTo (g : Nat) (o : Option Addr) (w : World) (o' : Option Addr) (w' : World) : Prop where
 mod : Mod (fun k => k = g ∨ Blk o k) w w'
 at_ : ∀ k, Blk o' k → Blk o k ∨ w.heap.size ≤ k
theorem RTo.refl (g : Nat) (o : Option Addr) (w : World) : RTo g o w o w := ⟨Mod.refl _ _, fun _ h => Or.inl h⟩
theorem RTo.trans {g : Nat} {o p q : Option Addr} {a b c : World} (h : RTo g o a p b) (k : RTo g p b q c) : RTo g o a q c :=
 ⟨h.mod.trans k.mod (fun x hx => by
  rcases hx with rfl | hx
  ·exact Or.inl (Or.inl rfl)
  ·rcases h.at_ x hx with e | e
   ·exact Or.inl (Or.inr e)
   ·exact Or.inr e), fun x hx => by
  rcases k.at_ x hx with e | e
  ·exact h.at_ x e
  ·exact Or.inr (Nat.le_trans h.mod.size e)⟩
theorem RTo.of_bel {g : Nat} {o : Option Addr} {a b : World} (h : Bel a b) : RTo g o a o b := ⟨Mod.of_bel h, fun _ e => Or.inl e⟩
theorem RTo.bel {g : Nat} {o p : Option Addr} {a b c : World} (h : RTo g o a p b) (k : Bel b c) : RTo g o a p c := h.trans (RTo.of_bel k)
theorem RS.on {x : Cx} {S : Nat → Prop} {p : Nat} {o : Option Addr} {n c : Nat} {L : List Nd} {w w' : World} (h : RS x S p o n c L w) (b : Bel w w') : RS x S p o n c L w' :=
 ⟨h.ts.mod (Mod.of_bel (F := fun _ => False) b) (fun k => k) (fun k => k), b.cell' h.nod, h.own.on b, ⟨h.lt.1, h.lt.2.1, Nat.le_trans h.lt.2.2 b.size⟩, h.sg, fun q hq => ⟨Nat.lt_of_lt_of_le (h.sl q hq).1 b.size, (h.sl q hq).2⟩, h.np⟩
/-- Other blocks that the nodes' slices don't lie in. -/
theorem RS.wide {x : Cx} {S S' : Nat → Prop} {p : Nat} {o : Option Addr} {n c : Nat} {L : List Nd} {w w' : World} (h : RS x S p o n c L w) (b : Bel w w') (hS : ∀ q, S' q → S q ∨ w.heap.size ≤ q) (hl : ∀ q, S' q → q < w'.heap.size) (hg : S' x.g) : RS x S' p o n c L w' :=
 have k := h.on b
 ⟨k.ts, k.nod, (h.own.wide hS).on b, k.lt, hg, fun q hq => ⟨hl q hq, fun hb => by
  rcases hS q hq with e | e
  ·exact (h.sl q e).2 hb
  ·have := (h.own.blk hb).2
   omega⟩, k.np⟩
/-- Blocks in S and not the reader's change. -/
theorem RS.mod {F : Nat → Prop} {x : Cx} {S : Nat → Prop} {p : Nat} {o : Option Addr} {n c : Nat} {L : List Nd} {w w' : World} (h : RS x S p o n c L w) (m : Mod F w w') (hF : ∀ b, F b → S b) (hg : ¬ F x.g) (ht : ¬ F x.tb) : RS x S p o n c L w' :=
 ⟨h.ts.mod m hg ht, m.cell h.nod hg, h.own.mod m hF (fun b hb k => (h.sl b (hF b k)).2 hb), ⟨h.lt.1, h.lt.2.1, Nat.le_trans h.lt.2.2 m.size⟩, h.sg, fun q hq => ⟨Nat.lt_of_lt_of_le (h.sl q hq).1 m.size, (h.sl q hq).2⟩, h.np⟩
end Syn
end Go.Proofs.YtcapkeaedpabjaaGreatDoor

/-
 Layer 8: add and take, as the program has them.
-/
namespace Go.Proofs.YtcapkeaedpabjaaGreatDoor
open Go.RowKit Go.ChangeShapes Go.WideShapes
namespace Syn

theorem box5 (w : World) (a b c d e : Value) (t : TypeId) : (w.alloc (.cells #[a, b, c, d, e] t)).cell? ⟨w.heap.size, 0, none⟩ = some a ∧ (w.alloc (.cells #[a, b, c, d, e] t)).cell? ⟨w.heap.size, 1, none⟩ = some b ∧ (w.alloc (.cells #[a, b, c, d, e] t)).cell? ⟨w.heap.size, 2, none⟩ = some c ∧ (w.alloc (.cells #[a, b, c, d, e] t)).cell? ⟨w.heap.size, 3, none⟩ = some d ∧ (w.alloc (.cells #[a, b, c, d, e] t)).cell? ⟨w.heap.size, 4, none⟩ = some e :=
 ⟨World.cell?_alloc_new .., World.cell?_alloc_new .., World.cell?_alloc_new .., World.cell?_alloc_new .., World.cell?_alloc_new ..⟩
theorem heap_new (W : World) (o : Obj) : (W.alloc o).heap[W.heap.size]? = some o := by show (W.heap.push o)[W.heap.size]? = _; simp
def nodV (v : Nv) : Value := .agg #[.int .i64 v.k, .string ⟨v.s.toArray⟩, .int .i64 v.i, .slice v.ko v.kn v.kc, .slice v.jo v.jn v.jc]
end Syn
end Go.Proofs.YtcapkeaedpabjaaGreatDoor

/-
 Layer 8: take, as the program has it.
-/
namespace Go.Proofs.YtcapkeaedpabjaaGreatDoor
open Go.RowKit Go.ChangeShapes Go.WideShapes
namespace Syn

/-- The tokens are set anew. -/
theorem TS.step {x : Cx} {p m d : Nat} {w : World} (h : TS x p w) (hc : w.cell? ⟨x.g, 0, none⟩ = some (.slice (some ⟨x.tb, p * 4, none⟩) (m + 2) (d + 2))) : TS x (p + 1) (w.setCell ⟨x.g, 0, none⟩ (.slice (some ⟨x.tb, p * 4 + 4, none⟩) (m + 1) (d + 1))) := by
 obtain ⟨m0, d0, c0, e1, e2, e3⟩ := h.tok
 rw [hc] at c0
 simp only [Option.some.injEq, Value.slice.injEq] at c0
 have hms : Mod (fun k => k = x.g) w (w.setCell ⟨x.g, 0, none⟩ (.slice (some ⟨x.tb, p * 4 + 4, none⟩) (m + 1) (d + 1))) := (Mod.refl (fun k => k = x.g) w).setCell (p := ⟨x.g, 0, none⟩) (Or.inl rfl) _
 refine ⟨⟨m, d, ?_, by omega, by omega, by omega⟩, fun i hi => (h.tks i hi).same (hms.block _ (h.tks i hi).lt h.ne), fun j => by rw [World.frozen?_setCell]; exact h.fz j, h.len, h.ne⟩
 rw [show (p + 1) * 4 = p * 4 + 4 by omega]
 exact World.cell?_setCell_same w _ _ hc
theorem RS.step {x : Cx} {S : Nat → Prop} {p m d : Nat} {o : Option Addr} {n c : Nat} {L : List Nd} {w : World} (h : RS x S p o n c L w) (hc : w.cell? ⟨x.g, 0, none⟩ = some (.slice (some ⟨x.tb, p * 4, none⟩) (m + 2) (d + 2))) :
  RS x S (p + 1) o n c L (w.setCell ⟨x.g, 0, none⟩ (.slice (some ⟨x.tb, p * 4 + 4, none⟩) (m + 1) (d + 1))) ∧ RTo x.g o w o (w.setCell ⟨x.g, 0, none⟩ (.slice (some ⟨x.tb, p * 4 + 4, none⟩) (m + 1) (d + 1))) := by
 have hms : Mod (fun k => k = x.g) w (w.setCell ⟨x.g, 0, none⟩ (.slice (some ⟨x.tb, p * 4 + 4, none⟩) (m + 1) (d + 1))) := (Mod.refl (fun k => k = x.g) w).setCell (p := ⟨x.g, 0, none⟩) (Or.inl rfl) _
 refine ⟨⟨h.ts.step hc, (World.cell?_setCell_other w ⟨x.g, 0, none⟩ ⟨x.g, 1, none⟩ _ (by simp)).trans h.nod, h.own.mod hms (fun b hb => by rw [hb]; exact h.sg) (fun b hb k => (h.sl _ h.sg).2 (by rw [← k]; exact hb)), ⟨h.lt.1, h.lt.2.1, Nat.le_trans h.lt.2.2 hms.size⟩, h.sg, fun b hb => ⟨Nat.lt_of_lt_of_le (h.sl b hb).1 hms.size, (h.sl b hb).2⟩, by have := h.np; omega⟩, ⟨hms.weak fun k hk => Or.inl hk, fun _ e => Or.inl e⟩⟩
end Syn
end Go.Proofs.YtcapkeaedpabjaaGreatDoor

/-
 Layer 8: sees, accept, expect, name, as the program has them.
-/
namespace Go.Proofs.YtcapkeaedpabjaaGreatDoor
open Go.RowKit Go.ChangeShapes Go.WideShapes
namespace Syn

/-- Where a slice that is not empty lies. -/
theorem sl_addr {w : World} {o : Option Addr} {n : Nat} {xs : List ByteArray} (h : SlArg w o n xs) (hn : 0 < n) : ∃ b off, o = some ⟨b, off, none⟩ ∧ ∀ j, j < xs.length → w.cell? ⟨b, off + j, none⟩ = some (.string (xs.getD j ByteArray.empty)) := by
 have hl := h.1
 obtain ⟨⟨b, off, sp⟩, rfl, hc⟩ := h.2 0 (by omega)
 have hs : sp = none := by
  cases sp with
  | none => rfl
  | some x =>
   unfold World.cell? Addr.add at hc
   rw [if_pos rfl] at hc
   split at hc
   ·simp at hc
   ·cases hc
 subst hs
 refine ⟨b, off, rfl, fun j hj => ?_⟩
 obtain ⟨a, e, c⟩ := h.2 j hj
 obtain rfl := Option.some.inj e
 rw [Lib.add_plain] at c
 rw [c, List.getD_eq_getElem?_getD, List.getElem?_eq_getElem hj]
 rfl
theorem KArg.on {w w' : World} {o : Option Addr} {n : Nat} {l : List Txt} (h : KArg w o n l) (b : Bel w w') : KArg w' o n l := SlArg.on h b
def errV : Value := .iface 26 (.int .i64 1)
/-- The reader stops: what it has not read begins where no program goes on. -/
def Stops (x : Cx) (o : Option Addr) (w : World) (e : Ending) (w' : World) (r : List Ck) : Prop := e = .panicked [{ v := errV, recovered := false }] ∧ Mod (fun k => k = x.g ∨ Blk o k) w w' ∧ ∃ p', TS x p' w' ∧ r = x.at p'
end Syn
end Go.Proofs.YtcapkeaedpabjaaGreatDoor

/-
 Layer 8: nodes with new parts; binary, as the program has it.
-/
namespace Go.Proofs.YtcapkeaedpabjaaGreatDoor
open Go.RowKit Go.ChangeShapes Go.WideShapes
namespace Syn

theorem KArg.mod {F : Nat → Prop} {w w' : World} {o : Option Addr} {n : Nat} {l : List Txt} (h : KArg w o n l) (m : Mod F w w') (hF : ∀ a, o = some a → ¬ F a.block) : KArg w' o n l :=
 ⟨h.1, fun i hi => let ⟨a, e, c⟩ := h.2 i hi; ⟨a, e, m.cell c (by rw [add_block]; exact hF a e)⟩⟩
/-- What a part of the reader that returns a node's place comes to: its tree lies behind n nodes. -/
def EPost (x : Cx) (S : Nat → Prop) (p q n : Nat) (o : Option Addr) (L : List Nd) (X : RR T) (w : World) (e : Ending) (w' : World) : Prop :=
 match X with
 | .ok t r => e = .returned (.int .i64 ((n : Int) + (size t : Int) - 1)) ∧ ∃ p' o' c', RS x S p' o' (n + size t) c' (L ++ flat n t) w' ∧ RTo x.g o w o' w' ∧ r = x.at p' ∧ p < p' ∧ size t + q ≤ p'
 | .bad r => Stops x o w e w' r
theorem Stops.from {x : Cx} {o o' : Option Addr} {w w1 w' : World} {e : Ending} {r : List Ck} (t : RTo x.g o w o' w1) (h : Stops x o' w1 e w' r) : Stops x o w e w' r := by
 obtain ⟨h1, h2, h3⟩ := h
 refine ⟨h1, t.mod.trans h2 fun i hi => ?_, h3⟩
 rcases hi with rfl | hi
 ·exact Or.inl (Or.inl rfl)
 ·rcases t.at_ i hi with k | k
  ·exact Or.inl (Or.inr k)
  ·exact Or.inr k
theorem EPost.mk {x : Cx} {S : Nat → Prop} {p q n : Nat} {o : Option Addr} {L : List Nd} {t : T} {w w' : World} {p' : Nat} {o' : Option Addr} {c' : Nat} {z : Int} (hz : z = (n : Int) + (size t : Int) - 1) (r : RS x S p' o' (n + size t) c' (L ++ flat n t) w') (k : RTo x.g o w o' w') (h1 : p < p') (h2 : size t + q ≤ p') : EPost x S p q n o L (.ok t (x.at p')) w (.returned (.int .i64 z)) w' :=
 ⟨by rw [hz], p', o', c', r, k, rfl, h1, h2⟩
theorem EPost.from {x : Cx} {S : Nat → Prop} {p q n : Nat} {o o1 : Option Addr} {L : List Nd} {X : RR T} {w w1 w' : World} {e : Ending} (t : RTo x.g o w o1 w1) (h : EPost x S p q n o1 L X w1 e w') : EPost x S p q n o L X w e w' := by
 cases X with
 | bad r => exact Stops.from t h
 | ok u r =>
  obtain ⟨h1, p', o', c', h2, h3, h4⟩ := h
  exact ⟨h1, p', o', c', h2, t.trans h3, h4⟩
/-- What reads with function F at place p comes to what G says. -/
def Rd (x : Cx) (F : FuncId) (G : List Ck → RR T) (p : Nat) : Prop := ∀ (S : Nat → Prop) (o : Option Addr) (n c : Nat) (L : List Nd) (w : World), RS x S p o n c L w → Calls Tryz.prog F #[.pointer (some ⟨x.g, 0, none⟩)] w (EPost x S p p n o L (G (x.at p)) w)
end Syn
end Go.Proofs.YtcapkeaedpabjaaGreatDoor

/-
 Layer 8: chain, as the program has it.
-/
namespace Go.Proofs.YtcapkeaedpabjaaGreatDoor
open Go.RowKit Go.ChangeShapes Go.WideShapes
namespace Syn

/-- How much is enough for a part of the reader. -/
def Lv (x : Cx) (F : FuncId) (l k : Nat) (p : Nat) : Prop := ∀ f, 20 * (x.T.length - p) + k ≤ f → Rd x F (rdE f l) p
def left? (x : Cx) (w : World) : Nat := match w.cell? ⟨x.g, 0, none⟩ with | some (.slice _ m _) => m | _ => 0
end Syn
end Go.Proofs.YtcapkeaedpabjaaGreatDoor

/-
 Layer 8: items, as the program has it, whatever reads an item.
-/
namespace Go.Proofs.YtcapkeaedpabjaaGreatDoor
open Go.RowKit Go.ChangeShapes Go.WideShapes
namespace Syn

def IPost {A : Type} (x : Cx) (St : A → Nat → World → Prop) (Pn : Ending → World → List Ck → Prop) (p : Nat) (X : RR A) (e : Ending) (w' : World) : Prop :=
 match X with
 | .ok a r => e = .returned (.tuple #[]) ∧ ∃ p', St a p' w' ∧ r = x.at p' ∧ p < p'
 | .bad r => Pn e w' r
theorem IPost.mk {A : Type} {x : Cx} {St : A → Nat → World → Prop} {Pn : Ending → World → List Ck → Prop} {p p' : Nat} {a : A} {w' : World} (h : St a p' w') (hp : p < p') : IPost x St Pn p (.ok a (x.at p')) (.returned (.tuple #[])) w' := ⟨rfl, p', h, rfl, hp⟩
end Syn
end Go.Proofs.YtcapkeaedpabjaaGreatDoor

/-
 Layer 8: the levels of expressions that are chains, as the program has them.
-/
namespace Go.Proofs.YtcapkeaedpabjaaGreatDoor
open Go.RowKit Go.ChangeShapes Go.WideShapes
namespace Syn

end Syn
end Go.Proofs.YtcapkeaedpabjaaGreatDoor

/-
 Layer 8: the levels not, unary, cmp and post of expressions, as the program has them. Written by tools/genSynV.py.
-/
namespace Go.Proofs.YtcapkeaedpabjaaGreatDoor
open Go.RowKit Go.ChangeShapes Go.WideShapes
namespace Syn

theorem hmf_any : ∀ (fn : Fn) (first cap : Array Value) (w : World), (Instr.makeFunc fn first cap).run Tryz.prog w = .ok (.func fn first cap) w := fun _ _ _ _ => rfl
end Syn
end Go.Proofs.YtcapkeaedpabjaaGreatDoor

/-
 Layer 8: the state in which the parts of a node are read.
-/
namespace Go.Proofs.YtcapkeaedpabjaaGreatDoor
open Go.RowKit Go.ChangeShapes Go.WideShapes
namespace Syn

def encZ (l : List Int) : List Value := l.map (Value.int .i64)
def encK (l : List Txt) : List Value := l.map fun s => Value.string ⟨s.toArray⟩
theorem encZ_len (l : List Int) : (encZ l).length = l.length := by simp [encZ]
theorem encK_len (l : List Txt) : (encK l).length = l.length := by simp [encK]
theorem own_zarg {w : World} {base : Nat} {e : TypeId} {o : Option Addr} {k c : Nat} {l : List Int} (h : w.ownsRow base e 1 (.slice o k c) k (encZ l)) : ZArg w o k l := by
 have hl : l.length = k := by have := h.1; rw [encZ_len] at this; omega
 refine ⟨hl, fun i hi => ?_⟩
 rcases h.2 with ⟨hv, hk⟩ | ⟨g, cap, cur, hv, _, _, _⟩
 ·omega
 ·simp only [Value.slice.injEq] at hv
  obtain ⟨rfl, -, rfl⟩ := hv
  exact ⟨_, rfl, h.cells rfl i _ (by simp [encZ, List.getElem?_eq_getElem hi])⟩
theorem own_karg {w : World} {base : Nat} {e : TypeId} {o : Option Addr} {k c : Nat} {l : List Txt} (h : w.ownsRow base e 1 (.slice o k c) k (encK l)) : KArg w o k l := by
 have hl : l.length = k := by have := h.1; rw [encK_len] at this; omega
 refine ⟨by rw [List.length_map]; exact hl, fun i hi => ?_⟩
 rw [List.length_map] at hi
 rcases h.2 with ⟨hv, hk⟩ | ⟨g, cap, cur, hv, _, _, _⟩
 ·omega
 ·simp only [Value.slice.injEq] at hv
  obtain ⟨rfl, -, rfl⟩ := hv
  refine ⟨_, rfl, ?_⟩
  rw [h.cells rfl i (.string ⟨l[i].toArray⟩) (by simp [encK, List.getElem?_eq_getElem hi])]
  simp [bz]
theorem own_cap {w : World} {base : Nat} {e : TypeId} {o : Option Addr} {k c : Nat} {z : Nat} {xs : List Value} (h : w.ownsRow base e z (.slice o k c) k xs) : k ≤ c := by
 rcases h.2 with ⟨hv, hk⟩ | ⟨g, cap, cur, hv, _, _, hc, _⟩
 ·omega
 ·simp only [Value.slice.injEq] at hv
  omega
/-- A node in a box of its own. -/
structure NBox (w : World) (b : Nat) (k : Int) (s : Txt) (i : Int) (ks js : Value) : Prop where
 k : w.cell? ⟨b, 0, none⟩ = some (.int .i64 k)
 s : w.cell? ⟨b, 1, none⟩ = some (.string ⟨s.toArray⟩)
 i : w.cell? ⟨b, 2, none⟩ = some (.int .i64 i)
 ks : w.cell? ⟨b, 3, none⟩ = some ks
 js : w.cell? ⟨b, 4, none⟩ = some js
 fz : ∀ j, w.frozen? ⟨b, j, none⟩ = false
theorem NBox.same {w w' : World} {b : Nat} {k : Int} {s : Txt} {i : Int} {ks js : Value} (h : NBox w b k s i ks js) (e : w'.heap[b]? = w.heap[b]?) : NBox w' b k s i ks js :=
 ⟨(World.cell?_of_block (a := ⟨b, 0, none⟩) e).trans h.k, (World.cell?_of_block (a := ⟨b, 1, none⟩) e).trans h.s, (World.cell?_of_block (a := ⟨b, 2, none⟩) e).trans h.i, (World.cell?_of_block (a := ⟨b, 3, none⟩) e).trans h.ks, (World.cell?_of_block (a := ⟨b, 4, none⟩) e).trans h.js, fun j => (World.frozen?_of_block (a := ⟨b, j, none⟩) e).trans (h.fz j)⟩
theorem NBox.lt {w : World} {b : Nat} {k : Int} {s : Txt} {i : Int} {ks js : Value} (h : NBox w b k s i ks js) : b < w.heap.size := cell_lt' h.k
theorem NBox.setK {w : World} {b : Nat} {k : Int} {s : Txt} {i : Int} {ks js : Value} (h : NBox w b k s i ks js) (v : Value) : NBox (w.setCell ⟨b, 3, none⟩ v) b k s i v js :=
 ⟨(World.cell?_setCell_other w ⟨b, 3, none⟩ ⟨b, 0, none⟩ v (by simp)).trans h.k, (World.cell?_setCell_other w ⟨b, 3, none⟩ ⟨b, 1, none⟩ v (by simp)).trans h.s, (World.cell?_setCell_other w ⟨b, 3, none⟩ ⟨b, 2, none⟩ v (by simp)).trans h.i, World.cell?_setCell_same w _ _ h.ks, (World.cell?_setCell_other w ⟨b, 3, none⟩ ⟨b, 4, none⟩ v (by simp)).trans h.js, fun j => by rw [World.frozen?_setCell]; exact h.fz j⟩
/-- Where a node's parts are read: its box, the box of the reader's pointer, its rows. -/
structure Bx where
 r : Bool
 S : Nat → Prop
 p : Nat
 n : Nat
 o : Option Addr
 L : List Nd
 w : World
 bn : Nat
 rb : Nat
 kb : Nat
 k : Int
 s : Txt
 i : Int
def Bx.T (y : Bx) (qo ko : Option Addr) (b : Nat) : Prop := y.S b ∨ b = y.bn ∨ b = y.rb ∨ Blk qo b ∨ Blk ko b
structure Bx.Ok (x : Cx) (y : Bx) : Prop where
 ne : y.r = true → y.bn ≠ y.rb
 kb : y.w.heap.size ≤ y.kb
 ge : y.w.heap.size ≤ y.bn ∧ y.w.heap.size ≤ y.rb
 xb : x.g < x.base ∧ x.tb < x.base ∧ x.base ≤ y.w.heap.size
 sg : y.S x.g
 sl : ∀ b, y.S b → b < y.w.heap.size
/-- The state, with all that it says. -/
structure GS (x : Cx) (y : Bx) (ks : List Txt) (a : Ts) (p : Nat) (o : Option Addr) (c : Nat) (qo : Option Addr) (qc : Nat) (ko : Option Addr) (kc : Nat) (w : World) : Prop where
 rs : RS x (y.T qo ko) p o (y.n + sizes a) c (y.L ++ flats y.n a) w
 go : RTo x.g y.o y.w o w
 box : NBox w y.bn y.k y.s y.i (.slice qo ks.length qc) (.slice ko (count a) kc)
 ptr : y.r = true → w.cell? ⟨y.rb, 0, none⟩ = some (.pointer (some ⟨x.g, 0, none⟩))
 keys : w.ownsRow y.kb 9 1 (.slice qo ks.length qc) ks.length (encK ks)
 kids : w.ownsRow y.kb 3 1 (.slice ko (count a) kc) (count a) (encZ (roots y.n a))
 apart : ∀ b, Blk qo b → ¬ Blk ko b
 sz : sizes a + y.p ≤ p
 kb : y.kb ≤ w.heap.size
 nb : ∀ b, Blk qo b ∨ Blk ko b → b ≠ y.bn ∧ b ≠ y.rb
 rl : y.rb < w.heap.size
theorem GS.far {x : Cx} {y : Bx} {ks : List Txt} {a : Ts} {p : Nat} {o : Option Addr} {c : Nat} {qo : Option Addr} {qc : Nat} {ko : Option Addr} {kc : Nat} {w : World} (h : GS x y ks a p o c qo qc ko kc w) (_ok : y.Ok x) :
  (∀ b, Blk qo b → y.kb ≤ b ∧ b < w.heap.size) ∧ (∀ b, Blk ko b → y.kb ≤ b ∧ b < w.heap.size) :=
 ⟨fun b hb => h.keys.lt b ((blk_of h.keys).1 hb), fun b hb => h.kids.lt b ((blk_of h.kids).1 hb)⟩
/-- The reader's own steps keep the state. -/
theorem GS.step {x : Cx} {y : Bx} {ks : List Txt} {a : Ts} {p p' : Nat} {o o' : Option Addr} {c c' : Nat} {qo : Option Addr} {qc : Nat} {ko : Option Addr} {kc : Nat} {w w' : World} (h : GS x y ks a p o c qo qc ko kc w) (ok : y.Ok x) (t : RTo x.g o w o' w') (hR : RS x (y.T qo ko) p' o' (y.n + sizes a) c' (y.L ++ flats y.n a) w') (hs : p ≤ p') : GS x y ks a p' o' c' qo qc ko kc w' := by
 have f := h.far ok
 have hF : ∀ b, y.T qo ko b → b ≠ x.g → ¬ (b = x.g ∨ Blk o b) := fun b hb hg k => by
  rcases k with k | k
  ·exact hg k
  ·exact (h.rs.sl b hb).2 k
 have e1 : y.bn ≠ x.g := by have := ok.ge; have := ok.xb; omega
 have e2 : y.rb ≠ x.g := by have := ok.ge; have := ok.xb; omega
 have e3 : ∀ b, y.kb ≤ b → b ≠ x.g := fun b hb => by have := ok.xb; have := ok.kb; omega
 refine ⟨hR, h.go.trans t, ?_, fun hr => t.mod.cell (h.ptr hr) (hF y.rb (Or.inr (Or.inr (Or.inl rfl))) e2), own_kept h.keys t.mod fun b hb => hF b (Or.inr (Or.inr (Or.inr (Or.inl ((blk_of h.keys).2 hb))))) (e3 b (f.1 b ((blk_of h.keys).2 hb)).1), ?_, h.apart, Nat.le_trans h.sz hs, Nat.le_trans h.kb t.mod.size, h.nb, Nat.lt_of_lt_of_le h.rl t.mod.size⟩
 ·exact h.box.same (t.mod.block _ h.box.lt (hF _ (Or.inr (Or.inl rfl)) e1))
 ·exact own_kept h.kids t.mod fun b hb => hF b (Or.inr (Or.inr (Or.inr (Or.inr ((blk_of h.kids).2 hb))))) (e3 b (f.2 b ((blk_of h.kids).2 hb)).1)
/-- The reader's nodes, where a row changes that their slices don't lie in, and may move. -/
theorem RS.rows {F : Nat → Prop} {x : Cx} {S S' : Nat → Prop} {p : Nat} {o : Option Addr} {n c : Nat} {L : List Nd} {w w' : World} (h : RS x S p o n c L w) (m : Mod F w w') (hF : ∀ b, F b → S b) (hg : ¬ F x.g) (ht : ¬ F x.tb) (hS : ∀ b, S' b → S b ∨ w.heap.size ≤ b) (hl : ∀ b, S' b → b < w'.heap.size) (hs : S' x.g) : RS x S' p o n c L w' := by
 have k := h.mod m hF hg ht
 have h1 : NOwn (fun b => S b ∨ S' b) w x.base o n c L := h.own.wide (fun b hb => hb.elim Or.inl (hS b))
 have h2 := h1.mod m (fun b hb => Or.inl (hF b hb)) (fun b hb q => (h.sl b (hF b q)).2 hb)
 have h3 : NOwn S' w' x.base o n c L := h2.wide (fun b hb => Or.inl (Or.inr hb))
 refine ⟨k.ts, k.nod, h3, k.lt, hs, fun b hb => ⟨hl b hb, fun q => ?_⟩, k.np⟩
 rcases hS b hb with e | e
 ·exact (h.sl b e).2 q
 ·have := (h.own.blk q).2
  omega
end Syn
end Go.Proofs.YtcapkeaedpabjaaGreatDoor

/-
 Layer 8: the parts of a list, as the program reads them.
-/
namespace Go.Proofs.YtcapkeaedpabjaaGreatDoor
open Go.RowKit Go.ChangeShapes Go.WideShapes
namespace Syn

theorem info_int : (Tryz.prog.info? 3).map (fun i => (i.zero, i.size, i.bytes)) = some (some (.int .i64 0), 1, 8) := by kernel_rfl
theorem info_str : (Tryz.prog.info? 9).map (fun i => (i.zero, i.size, i.bytes)) = some (some (.string ByteArray.empty), 1, 16) := by kernel_rfl
end Syn
end Go.Proofs.YtcapkeaedpabjaaGreatDoor

/-
 Layer 8: group, as the program has it.
-/
namespace Go.Proofs.YtcapkeaedpabjaaGreatDoor
open Go.RowKit Go.ChangeShapes Go.WideShapes
namespace Syn

end Syn
end Go.Proofs.YtcapkeaedpabjaaGreatDoor

/-
 Layer 8: keyAfter, as the program has it.
-/
namespace Go.Proofs.YtcapkeaedpabjaaGreatDoor
open Go.RowKit Go.ChangeShapes Go.WideShapes
namespace Syn

theorem tl_list (l : Txt) : (⟨l.toArray⟩ : ByteArray).toList = l := Go.ByteArray.toList_mk _
end Syn
end Go.Proofs.YtcapkeaedpabjaaGreatDoor

/-
 Layer 8: pairs, as the program has it.
-/
namespace Go.Proofs.YtcapkeaedpabjaaGreatDoor
open Go.RowKit Go.ChangeShapes Go.WideShapes
namespace Syn

/-- Another key. -/
theorem GS.key {x : Cx} {y : Bx} {ks : List Txt} {a : Ts} {p p1 : Nat} {o o1 : Option Addr} {c c1 : Nat} {qo : Option Addr} {qc : Nat} {ko : Option Addr} {kc : Nat} {w w1 w2 w3 : World} {s : Txt} {gg cap : Nat} (h : GS x y ks a p o c qo qc ko kc w) (ok : y.Ok x) (hp : p ≤ p1)
  (r : RS x (y.T qo ko) p1 o1 (y.n + sizes a) c1 (y.L ++ flats y.n a) w1) (k : RTo x.g o w o1 w1) (B : Bel w1 w2)
  (hown : w3.ownsRow y.kb 9 1 (.slice (some ⟨gg, 0, none⟩) (ks.length + 1) cap) (ks.length + 1) (encK ks ++ [.string ⟨s.toArray⟩])) (hg : w2.grownBy w3 (Value.slice qo ks.length qc).ownBlock) (hat : (Value.slice qo ks.length qc).ownBlock = some gg ∨ gg = w2.heap.size) :
  GS x y (ks ++ [s]) a p1 o1 c1 (some ⟨gg, 0, none⟩) cap ko kc (w3.setCell ⟨y.bn, 3, none⟩ (.slice (some ⟨gg, 0, none⟩) (ks.length + 1) cap)) := by
 have f := h.far ok
 have e1 : y.bn ≠ x.g := by have := ok.ge; have := ok.xb; omega
 have e2 : y.rb ≠ x.g := by have := ok.ge; have := ok.xb; omega
 have e3 : ∀ b, y.kb ≤ b → b ≠ x.g ∧ b ≠ x.tb := fun b hb => by have := ok.xb; have := ok.kb; omega
 have hF : ∀ b, y.T qo ko b → b ≠ x.g → ¬ (b = x.g ∨ Blk o b) := fun b hb hg k => by
  rcases k with k | k
  ·exact hg k
  ·exact (h.rs.sl b hb).2 k
 have m1 : Mod (fun b => b = x.g ∨ Blk o b) w w2 := k.mod.trans (Mod.of_bel (F := fun _ => False) B) (fun _ q => q.elim)
 have m2 : Mod (fun b => Blk qo b) w2 w3 := Mod.grown hg (fun b hb => (blk_of h.keys).2 hb)
 have m3 : Mod (fun b => b = y.bn) w3 (w3.setCell ⟨y.bn, 3, none⟩ (.slice (some ⟨gg, 0, none⟩) (ks.length + 1) cap)) := (Mod.refl (fun b => b = y.bn) w3).setCell (p := ⟨y.bn, 3, none⟩) (Or.inl rfl) _
 have hbx : NBox w2 y.bn y.k y.s y.i (.slice qo ks.length qc) (.slice ko (count a) kc) := h.box.same (m1.block _ h.box.lt (hF _ (Or.inr (Or.inl rfl)) e1))
 have hbx3 : NBox w3 y.bn y.k y.s y.i (.slice qo ks.length qc) (.slice ko (count a) kc) := hbx.same (m2.block _ hbx.lt fun q => (h.nb _ (Or.inl q)).1 rfl)
 have hpt : y.r = true → w2.cell? ⟨y.rb, 0, none⟩ = some (.pointer (some ⟨x.g, 0, none⟩)) := fun hr => m1.cell (h.ptr hr) (hF y.rb (Or.inr (Or.inr (Or.inl rfl))) e2)
 have hks : w2.ownsRow y.kb 3 1 (.slice ko (count a) kc) (count a) (encZ (roots y.n a)) := own_kept h.kids m1 fun b hb => hF b (Or.inr (Or.inr (Or.inr (Or.inr ((blk_of h.kids).2 hb))))) (e3 b (f.2 b ((blk_of h.kids).2 hb)).1).1
 have hblk : ∀ b, Blk (some (⟨gg, 0, none⟩ : Addr)) b → b = gg := fun b ⟨_, q⟩ => by simp only [Option.some.injEq, Addr.mk.injEq] at q; exact q.1.symm
 have hgg : y.kb ≤ gg ∧ gg < w3.heap.size := hown.lt gg rfl
 have r2 := r.on B
 have hgn : gg ≠ y.bn ∧ gg ≠ y.rb := by
  rcases hat with q | q
  ·exact h.nb gg (Or.inl ((blk_of h.keys).2 q))
  ·have := hbx.lt; have := h.rl; have := m1.size; omega
 refine ⟨?_, ?_, ?_, ?_, ?_, ?_, ?_, ?_, Nat.le_trans h.kb (Nat.le_trans m1.size (Nat.le_trans m2.size m3.size)), fun b hb => hb.elim (fun q => by rw [hblk b q]; exact hgn) (fun q => h.nb b (Or.inr q)), Nat.lt_of_lt_of_le h.rl (Nat.le_trans m1.size (Nat.le_trans m2.size m3.size))⟩
 ·have r3 : RS x (y.T (some ⟨gg, 0, none⟩) ko) p1 o1 (y.n + sizes a) c1 (y.L ++ flats y.n a) w3 := by
   refine r2.rows m2 (fun b hb => Or.inr (Or.inr (Or.inr (Or.inl hb)))) (fun q => (e3 _ (f.1 _ q).1).1 rfl) (fun q => (e3 _ (f.1 _ q).1).2 rfl) (fun b hb => ?_) (fun b hb => ?_) (Or.inl ok.sg)
   ·rcases hb with q | q | q | q | q
    ·exact Or.inl (Or.inl q)
    ·exact Or.inl (Or.inr (Or.inl q))
    ·exact Or.inl (Or.inr (Or.inr (Or.inl q)))
    ·rw [hblk b q]
     rcases hat with q | q
     ·exact Or.inl (Or.inr (Or.inr (Or.inr (Or.inl ((blk_of h.keys).2 q)))))
     ·exact Or.inr (by omega)
    ·exact Or.inl (Or.inr (Or.inr (Or.inr (Or.inr q))))
   ·rcases hb with q | q | q | q | q
    ·exact Nat.lt_of_lt_of_le (r2.sl b (Or.inl q)).1 m2.size
    ·exact Nat.lt_of_lt_of_le (r2.sl b (Or.inr (Or.inl q))).1 m2.size
    ·exact Nat.lt_of_lt_of_le (r2.sl b (Or.inr (Or.inr (Or.inl q)))).1 m2.size
    ·rw [hblk b q]; exact hgg.2
    ·exact Nat.lt_of_lt_of_le (r2.sl b (Or.inr (Or.inr (Or.inr (Or.inr q))))).1 m2.size
  exact r3.mod m3 (fun b hb => Or.inr (Or.inl hb)) (fun q => e1 q.symm) (fun q => by have := ok.ge; have := ok.xb; omega)
 ·refine ⟨((h.go.mod.trans m1 fun b q => ?_).trans m2 fun b q => Or.inr ?_).trans m3 fun b q => Or.inr ?_, fun b q => ?_⟩
  ·rcases q with q | q
   ·exact Or.inl (Or.inl q)
   ·rcases h.go.at_ b q with z | z
    ·exact Or.inl (Or.inr z)
    ·exact Or.inr z
  ·have := (f.1 b q).1; have := ok.kb; omega
  ·have := ok.ge; omega
  ·rcases k.at_ b q with z | z
   ·exact h.go.at_ b z
   ·exact Or.inr (Nat.le_trans h.go.mod.size z)
 ·rw [List.length_append, List.length_singleton]
  exact hbx3.setK _
 ·exact fun hr => (World.cell?_setCell_far w3 ⟨y.bn, 3, none⟩ ⟨y.rb, 0, none⟩ _ (ok.ne hr)).trans (m2.cell (hpt hr) fun q => (h.nb _ (Or.inl q)).2 rfl)
 ·rw [List.length_append, List.length_singleton, show encK (ks ++ [s]) = encK ks ++ [.string ⟨s.toArray⟩] by simp [encK]]
  exact own_kept hown m3 fun b hb q => by
   have : b = gg := Option.some.inj (hb.symm.trans rfl)
   exact hgn.1 (this ▸ q)
 ·exact own_kept (own_kept hks m2 fun b hb q => h.apart b q ((blk_of h.kids).2 hb)) m3 fun b hb q => (h.nb b (Or.inr ((blk_of h.kids).2 hb))).1 q
 ·intro b hb q
  rw [hblk b hb] at q
  rcases hat with z | z
  ·exact h.apart _ ((blk_of h.keys).2 z) q
  ·have h1 := (f.2 _ q).2
   have h2 := m1.size
   omega
 ·exact Nat.le_trans h.sz hp
end Syn
end Go.Proofs.YtcapkeaedpabjaaGreatDoor

/-
 Layer 8: pairs, as the program has it.
-/
namespace Go.Proofs.YtcapkeaedpabjaaGreatDoor
open Go.RowKit Go.ChangeShapes Go.WideShapes
namespace Syn

end Syn
end Go.Proofs.YtcapkeaedpabjaaGreatDoor

/-
 Layer 8: pairs, nameOrCall and prim, as the program has them. Written by tools/genSzC.py.
-/
namespace Go.Proofs.YtcapkeaedpabjaaGreatDoor
open Go.RowKit Go.ChangeShapes Go.WideShapes
namespace Syn

end Syn
end Go.Proofs.YtcapkeaedpabjaaGreatDoor

/-
 Layer 8: expressions, as the program reads them.
-/
namespace Go.Proofs.YtcapkeaedpabjaaGreatDoor
open Go.RowKit Go.ChangeShapes Go.WideShapes
namespace Syn

/-- All levels of expressions at a place. -/
structure Al (x : Cx) (p : Nat) : Prop where
 expr : Lv x 261 1 11 p
 and : Lv x 271 2 10 p
 not : Lv x 277 3 9 p
 cmp : Lv x 280 4 8 p
 sum : Lv x 285 5 7 p
 term : Lv x 290 6 6 p
 unary : Lv x 292 7 5 p
 post : Lv x 294 8 4 p
 prim : Lv x 299 9 3 p
end Syn
end Go.Proofs.YtcapkeaedpabjaaGreatDoor

/-
 Layer 8: assignment and seesAssignment, as the program has them.
-/
namespace Go.Proofs.YtcapkeaedpabjaaGreatDoor
open Go.RowKit Go.ChangeShapes Go.WideShapes
namespace Syn

end Syn
end Go.Proofs.YtcapkeaedpabjaaGreatDoor

/-
 Layer 8: block, as the program has it. Written by tools/genSzF.py.
-/
namespace Go.Proofs.YtcapkeaedpabjaaGreatDoor
open Go.RowKit Go.ChangeShapes Go.WideShapes
namespace Syn

theorem GS.later {x : Cx} {r : Bool} {S : Nat → Prop} {p0 p : Nat} {n : Nat} {o0 : Option Addr} {L : List Nd} {w0 : World} {bn rb kb : Nat} {k : Int} {s : Txt} {i : Int} {ks : List Txt} {o : Option Addr} {c : Nat} {qo : Option Addr} {qc : Nat} {ko : Option Addr} {kc : Nat} {w : World} (h : GS x ⟨r, S, p0, n, o0, L, w0, bn, rb, kb, k, s, i⟩ ks .nil p o c qo qc ko kc w) : GS x ⟨r, S, p, n, o0, L, w0, bn, rb, kb, k, s, i⟩ ks .nil p o c qo qc ko kc w :=
 ⟨h.rs, h.go, h.box, h.ptr, h.keys, h.kids, h.apart, by show sizes .nil + p ≤ p; rw [sizes]; omega, h.kb, h.nb, h.rl⟩
end Syn
end Go.Proofs.YtcapkeaedpabjaaGreatDoor

/-
 Layer 8: branch and statement, as the program has them. Written by tools/genSzG.py.
-/
namespace Go.Proofs.YtcapkeaedpabjaaGreatDoor
open Go.RowKit Go.ChangeShapes Go.WideShapes
namespace Syn

end Syn
end Go.Proofs.YtcapkeaedpabjaaGreatDoor

/-
 Layer 8: statement, as the program has it; statements and blocks. Written by tools/genSzH.py.
-/
namespace Go.Proofs.YtcapkeaedpabjaaGreatDoor
open Go.RowKit Go.ChangeShapes Go.WideShapes
namespace Syn

end Syn
end Go.Proofs.YtcapkeaedpabjaaGreatDoor
