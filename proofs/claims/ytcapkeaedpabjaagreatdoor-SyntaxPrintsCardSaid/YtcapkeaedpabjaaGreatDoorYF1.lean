/-
  Layer 8, texts merged: SynM, SynA, SynB, SynN, SynO, SynP. For every argument within the bounds that each theorem names.
-/
import Derived.Test.YtcapkeaedpabjaaGreatDoorYB1
import Derived.OneCell
import Derived.Laws.OwnMore
import Derived.Deep.AppendLies
import Derived.Deep.DeepCutAuto
import Derived.Deep.RegionHeld3
import Derived.Deep.RegionLaw
import Derived.Deep.RegionWith
import Derived.Deep.QuietTactic
import Derived.Deep.LoopGhost
import Derived.BigQuiet
import Derived.Lib.Hide
import Derived.StillTailTactics
import Derived.Defers
import Derived.Recover
set_option maxRecDepth 100000
set_option maxHeartbeats 16000000

/-
 Layer 8: worlds in which some blocks change; rows that one owns.
-/
namespace Go.Proofs.YtcapkeaedpabjaaGreatDoor
open Go.RowKit Go.ChangeShapes Go.WideShapes
namespace Syn

structure Mod (F : Nat → Prop) (w w' : World) : Prop where
 os : w'.os = w.os
 tape : w'.tape = w.tape
 output : w'.output = w.output
 size : w.heap.size ≤ w'.heap.size
 block : ∀ k,k < w.heap.size → ¬ F k → w'.heap[k]? = w.heap[k]?
theorem Mod.refl (F : Nat → Prop) (w : World) : Mod F w w := ⟨rfl,rfl,rfl,Nat.le_refl _,fun _ _ _ => rfl⟩
theorem Mod.trans {F G : Nat → Prop} {a b c : World} (h : Mod F a b) (k : Mod G b c) (hG : ∀ i,G i → F i ∨ a.heap.size ≤ i) : Mod F a c :=
 ⟨k.os.trans h.os,k.tape.trans h.tape,k.output.trans h.output,Nat.le_trans h.size k.size,fun i hi hf => (k.block i (Nat.lt_of_lt_of_le hi h.size) (fun g => (hG i g).elim hf (fun e => by omega))).trans (h.block i hi hf)⟩
theorem Mod.weak {F G : Nat → Prop} {a b : World} (h : Mod F a b) (hG : ∀ i,F i → G i) : Mod G a b := ⟨h.os,h.tape,h.output,h.size,fun i hi hf => h.block i hi (fun k => hf (hG i k))⟩
theorem Mod.of_bel {F : Nat → Prop} {a b : World} (h : Bel a b) : Mod F a b := ⟨h.os,h.tape,h.output,h.size,fun i hi _ => h.block i hi⟩
theorem Mod.bel {F : Nat → Prop} {a b : World} (h : Mod F a b) (hF : ∀ i,F i → a.heap.size ≤ i) : Bel a b := ⟨h.os,h.tape,h.output,h.size,fun i hi => h.block i hi (fun k => by have := hF i k; omega)⟩
theorem Mod.bel_of {F : Nat → Prop} {a b c : World} (g : Bel a b) (h : Mod F b c) (hF : ∀ i,F i → a.heap.size ≤ i) : Bel a c :=
 ⟨h.os.trans g.os,h.tape.trans g.tape,h.output.trans g.output,Nat.le_trans g.size h.size,fun i hi => (h.block i (Nat.lt_of_lt_of_le hi g.size) (fun k => by have := hF i k; omega)).trans (g.block i hi)⟩
theorem Mod.grown {F : Nat → Prop} {a b : World} {row : Option Nat} (h : a.grownBy b row) (hF : ∀ i,row = some i → F i) : Mod F a b :=
 ⟨h.os,h.tape,h.output,h.size,fun i hi hf => h.block i hi (fun e => hf (hF i e.symm))⟩
theorem Mod.alloc {F : Nat → Prop} {a b : World} (h : Mod F a b) (o : Obj) : Mod F a (b.alloc o) :=
 h.trans (Mod.of_bel (F := F) (Bel.alloc (Bel.refl b) o)) (fun _ g => Or.inl g)
theorem Mod.drew {F : Nat → Prop} {a b : World} (h : Mod F a b) : Mod F a b.drew := ⟨h.os,h.tape,h.output,h.size,h.block⟩
theorem Mod.setCell {F : Nat → Prop} {a b : World} (h : Mod F a b) {p : Addr} (hp : F p.block ∨ a.heap.size ≤ p.block) (u : Value) : Mod F a (b.setCell p u) :=
 ⟨h.os,h.tape,h.output,by show a.heap.size ≤ (b.setCell p u).heap.size; simpa [World.setCell] using h.size,fun i hi hf => (Below.heap_setCell _ _ _ _ (fun e => by subst e; exact hp.elim hf (fun e => by omega))).trans (h.block i hi hf)⟩
theorem Mod.cell {F : Nat → Prop} {w w' : World} (h : Mod F w w') {p : Addr} {v : Value} (hc : w.cell? p = some v) (hp : ¬ F p.block) : w'.cell? p = some v :=
 (World.cell?_of_block (h.block p.block (cell_lt' hc) hp)).trans hc
theorem own_kept {F : Nat → Prop} {w w' : World} {base : Nat} {e : TypeId} {z : Nat} {v : Value} {n : Nat} {xs : List Value} (h : w.ownsRow base e z v n xs) (g : Mod F w w') (hv : ∀ b,v.ownBlock = some b → ¬ F b) : w'.ownsRow base e z v n xs := by
 refine ⟨h.1,?_⟩
 rcases h.2 with h2 | ⟨b,cap,cur,rfl,hb,hc,r⟩
 ·exact Or.inl h2
 ·exact Or.inr ⟨b,cap,cur,rfl,hb,(g.block b (lt_of_block hc) (hv b rfl)).trans hc,r⟩
theorem own_take {w : World} {base : Nat} {e : TypeId} {z : Nat} {o : Option Addr} {n c m : Nat} {xs : List Value} (h : w.ownsRow base e z (.slice o n c) n xs) (hm : m ≤ n) : w.ownsRow base e z (.slice o m c) m (xs.take (m * z)) := by
 have hmz : m * z ≤ n * z := Nat.mul_le_mul_right z hm
 refine ⟨by rw [List.length_take,h.1]; omega,?_⟩
 rcases h.2 with ⟨hv,h2⟩ | ⟨g,cap,cur,hv,hg,hc,h1,h2,h3,h4⟩
 ·simp only [Value.slice.injEq] at hv
  obtain ⟨rfl,rfl,rfl⟩ := hv
  obtain rfl : m = 0 := by omega
  exact Or.inl ⟨rfl,rfl⟩
 ·simp only [Value.slice.injEq] at hv
  obtain ⟨rfl,-,rfl⟩ := hv
  exact Or.inr ⟨g,c,cur,rfl,hg,hc,by omega,h2,h3,by rw [← h4,List.take_take,Nat.min_eq_left hmz]⟩
theorem own_cell {w : World} {base : Nat} {e : TypeId} {z : Nat} {o : Option Addr} {n c : Nat} {xs : List Value} (h : w.ownsRow base e z (.slice o n c) n xs) {b off : Nat} (ho : o = some ⟨b,off,none⟩) {j : Nat} {u : Value} (hj : xs[j]? = some u) : w.cell? ⟨b,j,none⟩ = some u := by
 have := h.cells (g := b) (by rw [ho]; rfl) j u hj
 rw [Lib.add_plain] at this
 simpa using this
theorem own_at {w : World} {base : Nat} {e : TypeId} {z : Nat} {o : Option Addr} {n c : Nat} {xs : List Value} (h : w.ownsRow base e z (.slice o n c) n xs) (hn : 0 < n) : ∃ b,o = some ⟨b,0,none⟩ ∧ base ≤ b ∧ b < w.heap.size ∧ n ≤ c := by
 rcases h.2 with ⟨hv,h2⟩ | ⟨g,cap,cur,hv,hg,hc,h1,_⟩
 ·omega
 ·simp only [Value.slice.injEq] at hv
  obtain ⟨rfl,-,rfl⟩ := hv
  exact ⟨g,rfl,hg,lt_of_block hc,h1⟩

def Blk (o : Option Addr) (k : Nat) : Prop := ∃ off,o = some ⟨k,off,none⟩
theorem blk_of {w : World} {base : Nat} {e : TypeId} {z : Nat} {o : Option Addr} {n c : Nat} {xs : List Value} (h : w.ownsRow base e z (.slice o n c) n xs) {k : Nat} : Blk o k ↔ (Value.slice o n c).ownBlock = some k := by
 rcases h.2 with ⟨hv,_⟩ | ⟨g,cap,cur,hv,_⟩
 ·simp only [Value.slice.injEq] at hv
  obtain ⟨rfl,-,-⟩ := hv
  simp [Blk,Value.ownBlock]
 ·simp only [Value.slice.injEq] at hv
  obtain ⟨rfl,-,-⟩ := hv
  simp [Blk,Value.ownBlock]
theorem own_belz {w w' : World} {base : Nat} {e : TypeId} {z : Nat} {v : Value} {n : Nat} {xs : List Value} (h : w.ownsRow base e z v n xs) (g : Bel w w') : w'.ownsRow base e z v n xs :=
 own_kept (F := fun _ => False) h (Mod.of_bel g) (fun _ _ h => h)
abbrev Txt := List UInt8
structure Nd where
 k : Int
 s : Txt
 i : Int
 keys : List Txt
 kids : List Int
deriving DecidableEq
mutual
inductive T
 | node (k : Int) (s : Txt) (i : Int) (keys : List Txt) (kids : Ts)
inductive Ts
 | nil
 | cons (t : T) (r : Ts)
end
mutual
def size : T → Nat
 | .node _ _ _ _ ts => sizes ts + 1
def sizes : Ts → Nat
 | .nil => 0
 | .cons t r => size t + sizes r
end
mutual
def height : T → Nat
 | .node _ _ _ _ ts => heights ts + 1
def heights : Ts → Nat
 | .nil => 0
 | .cons t r => max (height t) (heights r)
end
def roots : Nat → Ts → List Int
 | _,.nil => []
 | b,.cons t r => ((b + size t - 1 : Nat) : Int) :: roots (b + size t) r
mutual
def flat : Nat → T → List Nd
 | b,.node k s i keys ts => flats b ts ++ [⟨k,s,i,keys,roots b ts⟩]
def flats : Nat → Ts → List Nd
 | _,.nil => []
 | b,.cons t r => flat b t ++ flats (b + size t) r
end
theorem size_pos : ∀ t,0 < size t
 | .node _ _ _ _ _ => Nat.succ_pos _
mutual
theorem flat_len : ∀ (t : T) (b : Nat),(flat b t).length = size t
 | .node _ _ _ _ ts,b => by rw [flat,size,List.length_append,flats_len ts b]; rfl
theorem flats_len : ∀ (ts : Ts) (b : Nat),(flats b ts).length = sizes ts
 | .nil,_ => rfl
 | .cons t r,b => by rw [flats,sizes,List.length_append,flat_len t b,flats_len r]
end
theorem roots_bd : ∀ (ts : Ts) (b : Nat) (x : Int),x ∈ roots b ts → (b : Int) ≤ x ∧ x < ((b + sizes ts : Nat) : Int)
 | .nil,b,x,h => by cases h
 | .cons t r,b,x,h => by
  rw [roots] at h
  rw [sizes]
  have hp := size_pos t
  rcases List.mem_cons.1 h with rfl | h
  ·omega
  ·have := roots_bd r _ _ h
   omega
def top : T → Nat → Nd
 | .node k s i keys ts,b => ⟨k,s,i,keys,roots b ts⟩
theorem flat_top (t : T) (b : Nat) : (flat b t).getLast? = some (top t b) := by
 cases t
 rw [flat,top]
 simp
theorem flat_at (t : T) (b : Nat) : (flat b t)[size t - 1]? = some (top t b) := by
 have h := flat_top t b
 rw [List.getLast?_eq_getElem?,flat_len] at h
 exact h
def count : Ts → Nat
 | .nil => 0
 | .cons _ r => count r + 1
theorem roots_len : ∀ (ts : Ts) (b : Nat),(roots b ts).length = count ts
 | .nil,_ => rfl
 | .cons _ r,b => by rw [roots,count,List.length_cons,roots_len r]
theorem sizes_le : ∀ ts,count ts ≤ sizes ts
 | .nil => Nat.le_refl _
 | .cons t r => by rw [count,sizes]; have := sizes_le r; have := size_pos t; omega
def app : Ts → Ts → Ts
 | .nil,u => u
 | .cons t r,u => .cons t (app r u)
theorem sizes_app : ∀ a b,sizes (app a b) = sizes a + sizes b
 | .nil,b => by rw [app,sizes,Nat.zero_add]
 | .cons t r,b => by rw [app,sizes,sizes,sizes_app r,Nat.add_assoc]
theorem roots_app : ∀ (a b : Ts) (p : Nat),roots p (app a b) = roots p a ++ roots (p + sizes a) b
 | .nil,b,p => by rw [app,sizes,roots,List.nil_append,Nat.add_zero]
 | .cons t r,b,p => by rw [app,roots,roots,roots_app r,sizes,List.cons_append,Nat.add_assoc]
theorem flats_app : ∀ (a b : Ts) (p : Nat),flats p (app a b) = flats p a ++ flats (p + sizes a) b
 | .nil,b,p => by rw [app,sizes,flats,List.nil_append,Nat.add_zero]
 | .cons t r,b,p => by rw [app,flats,flats,flats_app r,sizes,List.append_assoc,Nat.add_assoc]
def fsum : List T → Nat
 | [] => 0
 | t :: s => fsum s + size t
def flatS (b : Nat) : List T → List Nd
 | [] => []
 | t :: s => flatS b s ++ flat (b + fsum s) t
theorem flatS_len (b : Nat) : ∀ s,(flatS b s).length = fsum s
 | [] => rfl
 | t :: s => by rw [flatS,fsum,List.length_append,flatS_len b s,flat_len]
def pop : List Int → Nat → List T → Ts → Option (Ts × List T)
 | [],_,st,acc => some (acc,st)
 | _ :: _,_,[],_ => none
 | k :: ks,e,t :: st,acc => if k + 1 = (e : Int) then pop ks (e - size t) st (.cons t acc) else none
def build (b : Nat) : List Nd → List T → Option (List T)
 | [],st => some st
 | n :: r,st => match pop n.kids.reverse (b + fsum st) st .nil with
  | none => none
  | some (ts,st2) => build b r (.node n.k n.s n.i n.keys ts :: st2)
theorem app_nil : ∀ a,app a .nil = a
 | .nil => rfl
 | .cons t r => by rw [app,app_nil r]
def stk : Ts → List T → List T
 | .nil,st => st
 | .cons t r,st => stk r (t :: st)
theorem fsum_stk : ∀ us st,fsum (stk us st) = fsum st + sizes us
 | .nil,_ => rfl
 | .cons t r,st => by rw [stk,fsum_stk r,fsum,sizes,Nat.add_assoc]
theorem pop_app (b : Nat) : ∀ (xs ys : List Int) (st : List T) (acc ts : Ts) (st2 : List T),pop xs (b + fsum st) st acc = some (ts,st2) → pop (xs ++ ys) (b + fsum st) st acc = pop ys (b + fsum st2) st2 ts
 | [],ys,st,acc,ts,st2,h => by
  rw [pop] at h
  cases h
  rfl
 | k :: ks,ys,[],acc,ts,st2,h => by cases h
 | k :: ks,ys,t :: st,acc,ts,st2,h => by
  rw [List.cons_append,pop]
  rw [pop] at h
  split at h
  ·next hk =>
   rw [if_pos hk]
   have e : b + fsum (t :: st) - size t = b + fsum st := by rw [fsum]; omega
   rw [e] at h ⊢
   exact pop_app b ks ys st _ ts st2 h
  ·cases h
theorem pop_full (b : Nat) : ∀ (us : Ts) (st : List T) (acc : Ts),pop (roots (b + fsum st) us).reverse (b + fsum (stk us st)) (stk us st) acc = some (app us acc,st)
 | .nil,st,acc => rfl
 | .cons t r,st,acc => by
  have ih := pop_full b r (t :: st) acc
  have e : b + fsum (t :: st) = b + fsum st + size t := by rw [fsum,Nat.add_assoc]
  rw [roots,List.reverse_cons,stk,← e,pop_app b _ _ _ _ _ _ ih,pop]
  have hp := size_pos t
  rw [if_pos (by omega),pop]
  rfl
mutual
theorem build_flat (b : Nat) : ∀ (t : T) (st : List T) (r : List Nd),build b (flat (b + fsum st) t ++ r) st = build b r (t :: st)
 | .node k s i keys ts,st,r => by
  rw [flat,List.append_assoc,build_flats b ts st,List.cons_append,List.nil_append,build]
  rw [pop_full b ts st .nil,app_nil]
theorem build_flats (b : Nat) : ∀ (us : Ts) (st : List T) (r : List Nd),build b (flats (b + fsum st) us ++ r) st = build b r (stk us st)
 | .nil,st,r => rfl
 | .cons t u,st,r => by
  have e : b + fsum st + size t = b + fsum (t :: st) := by rw [fsum,Nat.add_assoc]
  rw [flats,List.append_assoc,build_flat b t st,e,build_flats b u (t :: st),stk]
end
theorem flat_inj {b : Nat} {t u : T} (h : flat b t = flat b u) : t = u := by
 have h1 := build_flat b t [] []
 have h2 := build_flat b u [] []
 rw [show b + fsum [] = b from rfl] at h1 h2
 rw [h,h2] at h1
 simp only [build] at h1
 cases h1
 rfl
abbrev Ck := Int × Txt × Int
def hd : List Ck → Ck
 | [] => (0,[],0)
 | c :: _ => c
def inT (ss : List Txt) (c : Ck) : Bool := (c.1 == 2 || c.1 == 5) && ss.contains c.2.1
def isT (s : Txt) (c : Ck) : Bool := inT [s] c
theorem kind_cons {r : List Ck} {k : Int} (h : (hd r).1 = k) (hk : k ≠ 0) : r = hd r :: r.tail := by
 cases r with
 | nil => exact absurd h.symm hk
 | cons c r => rfl
theorem tail_lt {r : List Ck} (h : r = hd r :: r.tail) : r.tail.length + 1 = r.length := by
 cases r with
 | nil => cases h
 | cons c r => rfl
inductive RR (α : Type) where
 | ok (x : α) (r : List Ck)
 | bad (r : List Ck)
def snoc (a : Ts) (t : T) : Ts := app a (.cons t .nil)
def bin (s : Txt) (a b : T) : T := .node 9 s 0 [] (.cons a (.cons b .nil))
def una (s : Txt) (a : T) : T := .node 8 s 0 [] (.cons a .nil)
def idx (a b : T) : T := .node 10 [] 0 [] (.cons a (.cons b .nil))
def leaf (k : Int) (s : Txt) (i : Int) : T := .node k s i [] .nil
def opsL : Nat → List Txt
 | 1 => [[111,114]]
 | 2 => [[97,110,100]]
 | 4 => [[61,61],[33,61],[60],[60,61],[62],[62,61]]
 | 5 => [[43],[45]]
 | 6 => [[42],[47],[37]]
 | _ => []
def leqT (a b : Txt) : Bool := Op.bytesLess a b || a == b
def keyB (ks : List Txt) (c : Ck) : Bool := c.1 == 4 && (match ks.getLast? with | none => true | some l => !leqT c.2.1 l)
mutual
def rdE : Nat → Nat → List Ck → RR T
 | 0,_,r => .bad r
 | n + 1,l,r =>
  if l = 3 then
   if isT [110,111,116] (hd r) then
    match rdE n 3 r.tail with
    | .ok t r' => .ok (una [110,111,116] t) r'
    | .bad r' => .bad r'
   else rdE n 4 r
  else if l = 4 then
   match rdE n 5 r with
   | .ok t r' =>
    if inT (opsL 4) (hd r') then
     match rdE n 5 r'.tail with
     | .ok u r2 => .ok (bin (hd r').2.1 t u) r2
     | .bad r2 => .bad r2
    else .ok t r'
   | .bad r' => .bad r'
  else if l = 7 then
   if isT [45] (hd r) then
    match rdE n 7 r.tail with
    | .ok t r' => .ok (una [45] t) r'
    | .bad r' => .bad r'
   else rdE n 8 r
  else if l = 8 then
   match rdE n 9 r with
   | .ok t r' => pst n t r'
   | .bad r' => .bad r'
  else if l = 9 then prm n r
  else
   match rdE n (l + 1) r with
   | .ok t r' => chn n l t r'
   | .bad r' => .bad r'
def chn : Nat → Nat → T → List Ck → RR T
 | 0,_,_,r => .bad r
 | n + 1,l,t,r =>
  if inT (opsL l) (hd r) then
   match rdE n (l + 1) r.tail with
   | .ok u r' => chn n l (bin (hd r).2.1 t u) r'
   | .bad r' => .bad r'
  else .ok t r
def pst : Nat → T → List Ck → RR T
 | 0,_,r => .bad r
 | n + 1,t,r =>
  if isT [91] (hd r) then
   match rdE n 1 r.tail with
   | .ok u r' => if isT [93] (hd r') then pst n (idx t u) r'.tail else .bad r'
   | .bad r' => .bad r'
  else .ok t r
def prm : Nat → List Ck → RR T
 | 0,r => .bad r
 | n + 1,r =>
  if (hd r).1 = 3 then .ok (leaf 3 [] (hd r).2.2) r.tail
  else if (hd r).1 = 4 then .ok (leaf 4 (hd r).2.1 0) r.tail
  else if (hd r).1 = 1 then
   if isT [40] (hd r.tail) then
    match rdL n [41] r.tail.tail with
    | .ok ts r' => .ok (.node 11 (hd r).2.1 0 [] ts) r'
    | .bad r' => .bad r'
   else .ok (leaf 5 (hd r).2.1 0) r.tail
  else if (hd r).1 = 6 then
   if isT [40] (hd r.tail) then
    match rdL n [41] r.tail.tail with
    | .ok ts r' => .ok (.node 12 (hd r).2.1 0 [] ts) r'
    | .bad r' => .bad r'
   else .bad r.tail
  else if isT [110,117,108,108] (hd r) then .ok (leaf 1 [] 0) r.tail
  else if isT [102,97,108,115,101] (hd r) then .ok (leaf 2 [] 0) r.tail
  else if isT [116,114,117,101] (hd r) then .ok (leaf 2 [] 1) r.tail
  else if isT [91] (hd r) then
   match rdL n [93] r.tail with
   | .ok ts r' => .ok (.node 6 [] 0 [] ts) r'
   | .bad r' => .bad r'
  else if isT [123] (hd r) then
   if isT [125] (hd r.tail) then .ok (.node 7 [] 0 [] .nil) r.tail.tail
   else
    match rdQ n [] .nil r.tail with
    | .ok x r' => .ok (.node 7 [] 0 x.1 x.2) r'
    | .bad r' => .bad r'
  else if isT [40] (hd r) then
   match rdE n 1 r.tail with
   | .ok t r' => if isT [41] (hd r') then .ok t r'.tail else .bad r'
   | .bad r' => .bad r'
  else .bad r
def rdL : Nat → Txt → List Ck → RR Ts
 | 0,_,r => .bad r
 | n + 1,cl,r => if isT cl (hd r) then .ok .nil r.tail else rdI n cl .nil r
def rdI : Nat → Txt → Ts → List Ck → RR Ts
 | 0,_,_,r => .bad r
 | n + 1,cl,acc,r =>
  match rdE n 1 r with
  | .ok t r' => if isT [44] (hd r') then rdI n cl (snoc acc t) r'.tail else if isT cl (hd r') then .ok (snoc acc t) r'.tail else .bad r'
  | .bad r' => .bad r'
def rdQ : Nat → List Txt → Ts → List Ck → RR (List Txt × Ts)
 | 0,_,_,r => .bad r
 | n + 1,ks,acc,r =>
  if keyB ks (hd r) then
   if isT [58] (hd r.tail) then
    match rdE n 1 r.tail.tail with
    | .ok t r' => if isT [44] (hd r') then rdQ n (ks ++ [(hd r).2.1]) (snoc acc t) r'.tail else if isT [125] (hd r') then .ok (ks ++ [(hd r).2.1],snoc acc t) r'.tail else .bad r'
    | .bad r' => .bad r'
   else .bad r.tail
  else .bad r
end
def rdN (n : Nat) (k : Int) (s : Txt) (r : List Ck) : RR T :=
 match rdE n 1 r with
 | .ok t r' => if isT [59] (hd r') then .ok (.node k s 0 [] (.cons t .nil)) r'.tail else .bad r'
 | .bad r' => .bad r'
def rdA (n : Nat) (k : Int) (r : List Ck) : RR T :=
 if (hd r).1 = 1 then
  if isT [61] (hd r.tail) then rdN n k (hd r).2.1 r.tail.tail else .bad r.tail
 else .bad r
def setB (r : List Ck) : Bool := (hd r).1 == 1 && ((hd r.tail).1 == 5 && (hd r.tail).2.1 == [61])
mutual
def rdS : Nat → List Ck → RR T
 | 0,r => .bad r
 | n + 1,r =>
  if isT [108,101,116] (hd r) then rdA n 13 r.tail
  else if setB r then rdA n 14 r
  else if isT [105,102] (hd r) then rdC n 15 r.tail
  else if isT [119,104,105,108,101] (hd r) then rdC n 16 r.tail
  else if isT [114,101,116,117,114,110] (hd r) then rdN n 17 [] r.tail
  else rdN n 18 [] r
def rdC : Nat → Int → List Ck → RR T
 | 0,_,r => .bad r
 | n + 1,k,r =>
  match rdE n 1 r with
  | .bad r' => .bad r'
  | .ok c r1 =>
   match rdB n r1 with
   | .bad r' => .bad r'
   | .ok b r2 =>
    if k = 15 ∧ isT [101,108,115,101] (hd r2) = true then
     match rdB n r2.tail with
     | .bad r' => .bad r'
     | .ok d r3 => .ok (.node k [] 0 [] (.cons c (.cons b (.cons d .nil)))) r3
    else .ok (.node k [] 0 [] (.cons c (.cons b .nil))) r2
def rdB : Nat → List Ck → RR T
 | 0,r => .bad r
 | n + 1,r => if isT [123] (hd r) then rdZ n .nil r.tail else .bad r
def rdZ : Nat → Ts → List Ck → RR T
 | 0,_,r => .bad r
 | n + 1,acc,r =>
  if isT [125] (hd r) then .ok (.node 19 [] 0 [] acc) r.tail
  else
   match rdS n r with
   | .ok t r' => rdZ n (snoc acc t) r'
   | .bad r' => .bad r'
end
structure Fu where
 name : Txt
 params : List Txt
 body : T
def rdM : Nat → List Txt → List Ck → RR (List Txt)
 | 0,_,r => .bad r
 | n + 1,ps,r =>
  if (hd r).1 = 1 then
   if isT [44] (hd r.tail) then rdM n (ps ++ [(hd r).2.1]) r.tail.tail
   else if isT [41] (hd r.tail) then .ok (ps ++ [(hd r).2.1]) r.tail.tail else .bad r.tail
  else .bad r
def rdF (n : Nat) (r : List Ck) : RR Fu :=
 if (hd r).1 = 1 then
  if isT [40] (hd r.tail) then
   match (if isT [41] (hd r.tail.tail) then .ok [] r.tail.tail.tail else rdM n [] r.tail.tail) with
   | .bad r' => .bad r'
   | .ok ps r' =>
    match rdB n r' with
    | .ok b r2 => .ok ⟨(hd r).2.1,ps,b⟩ r2
    | .bad r2 => .bad r2
  else .bad r.tail
 else .bad r
def rdG : Nat → List Fu → List Ck → RR (List Fu)
 | 0,_,r => .bad r
 | n + 1,fs,r =>
  if isT [102,117,110,99] (hd r) then
   match rdF n r.tail with
   | .ok f r' => rdG n (fs ++ [f]) r'
   | .bad r' => .bad r'
  else if r = [] then .ok fs [] else .bad r

def bz (s : Txt) : ByteArray := ⟨s.toArray⟩
def TokAt (w : World) (b o : Nat) (c : Ck) (a : Int) : Prop := w.cell? ⟨b,o,none⟩ = some (.int .i64 c.1) ∧ w.cell? ⟨b,o + 1,none⟩ = some (.string ⟨c.2.1.toArray⟩) ∧ w.cell? ⟨b,o + 2,none⟩ = some (.int .i64 c.2.2) ∧ w.cell? ⟨b,o + 3,none⟩ = some (.int .i64 a)
theorem TokAt.same {w w' : World} {b o : Nat} {c : Ck} {a : Int} (h : TokAt w b o c a) (e : w'.heap[b]? = w.heap[b]?) : TokAt w' b o c a :=
 ⟨(World.cell?_of_block (a := ⟨b,o,none⟩) e).trans h.1,(World.cell?_of_block (a := ⟨b,o + 1,none⟩) e).trans h.2.1,(World.cell?_of_block (a := ⟨b,o + 2,none⟩) e).trans h.2.2.1,(World.cell?_of_block (a := ⟨b,o + 3,none⟩) e).trans h.2.2.2⟩
theorem TokAt.lt {w : World} {b o : Nat} {c : Ck} {a : Int} (h : TokAt w b o c a) : b < w.heap.size := cell_lt' h.1
def ZArg (w : World) (o : Option Addr) (n : Nat) (l : List Int) : Prop := l.length = n ∧ ∀ i (h : i < l.length),∃ a,o = some a ∧ w.cell? (a.add i) = some (.int .i64 l[i])
theorem ZArg.on {w w' : World} {o : Option Addr} {n : Nat} {l : List Int} (h : ZArg w o n l) (b : Bel w w') : ZArg w' o n l :=
 ⟨h.1,fun i hi => let ⟨a,e,c⟩ := h.2 i hi; ⟨a,e,b.cell' c⟩⟩
theorem ZArg.nil (w : World) (o : Option Addr) : ZArg w o 0 [] := ⟨rfl,fun i h => absurd h (Nat.not_lt_zero i)⟩
def KArg (w : World) (o : Option Addr) (n : Nat) (l : List Txt) : Prop := SlArg w o n (l.map bz)
theorem KArg.nil (w : World) (o : Option Addr) : KArg w o 0 [] := ⟨rfl,fun i h => absurd h (Nat.not_lt_zero i)⟩
theorem add_block (a : Addr) (i : Nat) : (a.add i).block = a.block := by
 unfold Addr.add
 split <;> rfl
structure Nv where
 k : Int
 s : Txt
 i : Int
 ko : Option Addr
 kn : Nat
 kc : Nat
 jo : Option Addr
 jn : Nat
 jc : Nat
def encV (v : Nv) : List Value := [.int .i64 v.k,.string ⟨v.s.toArray⟩,.int .i64 v.i,.slice v.ko v.kn v.kc,.slice v.jo v.jn v.jc]
def encVs (l : List Nv) : List Value := l.flatMap encV
theorem encV_len (c : Nv) : (encV c).length = 5 := rfl
theorem encVs_len (l : List Nv) : (encVs l).length = l.length * 5 := by
 induction l with
 | nil => rfl
 | cons c r ih =>
  show (encV c ++ encVs r).length = _
  rw [List.length_append,ih,encV_len,List.length_cons]
  omega
theorem encVs_app (a b : List Nv) : encVs (a ++ b) = encVs a ++ encVs b := by simp [encVs]
theorem encVs_one (c : Nv) : encVs [c] = encV c := by simp [encVs]
theorem encVs_get {l : List Nv} {i j : Nat} (h : i < l.length) (hj : j < 5) : (encVs l)[i * 5 + j]? = (encV l[i])[j]? := by
 have e : encVs l = encVs (l.take i) ++ (encV l[i] ++ encVs (l.drop (i + 1))) := by
  rw [← encVs_one l[i],← encVs_app,← encVs_app]
  congr 1
  rw [List.singleton_append,← List.drop_eq_getElem_cons h,List.take_append_drop]
 have hl : (encVs (l.take i)).length = i * 5 := by rw [encVs_len,List.length_take,Nat.min_eq_left (by omega)]
 rw [e,List.getElem?_append_right (by omega),hl,List.getElem?_append_left (by rw [encV_len]; omega)]
 congr 1
 omega
theorem info_node : (Tryz.prog.info? 65).map (fun i => (i.zero,i.size,i.bytes)) = some (some (.agg #[.int .i64 0,.string ByteArray.empty,.int .i64 0,.slice none 0 0,.slice none 0 0]),5,80) := by kernel_rfl
def Uses (v : Nv) (b : Nat) : Prop := (∃ a,v.ko = some a ∧ 0 < v.kn ∧ a.block = b) ∨ (∃ a,v.jo = some a ∧ 0 < v.jn ∧ a.block = b)
structure NFit (w : World) (v : Nv) (x : Nd) : Prop where
 k : v.k = x.k
 s : v.s = x.s
 i : v.i = x.i
 keys : KArg w v.ko v.kn x.keys
 kids : ZArg w v.jo v.jn x.kids
 kc : v.kn ≤ v.kc
 jc : v.jn ≤ v.jc
theorem NFit.lt {w : World} {v : Nv} {x : Nd} (h : NFit w v x) {b : Nat} (u : Uses v b) : b < w.heap.size := by
 rcases u with ⟨a,e,hp,rfl⟩ | ⟨a,e,hp,rfl⟩
 ·obtain ⟨a',e',c⟩ := h.keys.2 0 (by have := h.keys.1; omega)
  rw [e] at e'
  cases e'
  have := cell_lt' c
  rwa [add_block] at this
 ·obtain ⟨a',e',c⟩ := h.kids.2 0 (by have := h.kids.1; omega)
  rw [e] at e'
  cases e'
  have := cell_lt' c
  rwa [add_block] at this
theorem NFit.mod {F : Nat → Prop} {w w' : World} {v : Nv} {x : Nd} (h : NFit w v x) (m : Mod F w w') (hF : ∀ b,Uses v b → ¬ F b) : NFit w' v x :=
 ⟨h.k,h.s,h.i,⟨h.keys.1,fun i hi => by
   obtain ⟨a,e,c⟩ := h.keys.2 i hi
   exact ⟨a,e,m.cell c (by rw [add_block]; exact hF _ (Or.inl ⟨a,e,by have := h.keys.1; omega,rfl⟩))⟩⟩,
  ⟨h.kids.1,fun i hi => by
   obtain ⟨a,e,c⟩ := h.kids.2 i hi
   exact ⟨a,e,m.cell c (by rw [add_block]; exact hF _ (Or.inr ⟨a,e,by have := h.kids.1; omega,rfl⟩))⟩⟩,h.kc,h.jc⟩
theorem NFit.on {w w' : World} {v : Nv} {x : Nd} (h : NFit w v x) (g : Bel w w') : NFit w' v x := h.mod (Mod.of_bel (F := fun _ => False) g) (fun _ _ k => k)
def NOwn (S : Nat → Prop) (w : World) (base : Nat) (o : Option Addr) (n c : Nat) (L : List Nd) : Prop :=
 ∃ vs : List Nv,w.ownsRow base 65 5 (.slice o n c) n (encVs vs) ∧ vs.length = L.length ∧ (∀ i (h : i < L.length) (h' : i < vs.length),NFit w vs[i] L[i]) ∧ ∀ v ∈ vs,∀ b,Uses v b → ¬ S b ∧ ¬ Blk o b
theorem NOwn.nil (S : Nat → Prop) (w : World) (base : Nat) : NOwn S w base none 0 0 [] := ⟨[],World.ownsRow_nil _ _ _ _,rfl,fun i h => absurd h (Nat.not_lt_zero i),fun v h => by cases h⟩
theorem NOwn.num {S : Nat → Prop} {w : World} {base : Nat} {o : Option Addr} {n c : Nat} {L : List Nd} (h : NOwn S w base o n c L) : L.length = n := by
 obtain ⟨vs,h1,h2,-⟩ := h
 have := h1.1
 rw [encVs_len] at this
 omega
theorem NOwn.blk {S : Nat → Prop} {w : World} {base : Nat} {o : Option Addr} {n c : Nat} {L : List Nd} (h : NOwn S w base o n c L) {k : Nat} (hk : Blk o k) : base ≤ k ∧ k < w.heap.size := by
 obtain ⟨vs,h1,-⟩ := h
 exact h1.lt k ((blk_of h1).1 hk)
theorem nfit_of {w : World} {L : List Nd} {vs : List Nv} (h2 : vs.length = L.length) (h3 : ∀ i (h : i < L.length) (h' : i < vs.length),NFit w vs[i] L[i]) {v : Nv} (hv : v ∈ vs) : ∃ x,NFit w v x := by
 obtain ⟨i,hi,rfl⟩ := List.mem_iff_getElem.1 hv
 exact ⟨_,h3 i (by omega) hi⟩
theorem NOwn.mod {S F : Nat → Prop} {w w' : World} {base : Nat} {o : Option Addr} {n c : Nat} {L : List Nd} (h : NOwn S w base o n c L) (m : Mod F w w') (hF : ∀ b,F b → S b) (hB : ∀ b,Blk o b → ¬ F b) : NOwn S w' base o n c L := by
 obtain ⟨vs,h1,h2,h3,h4⟩ := h
 refine ⟨vs,own_kept h1 m (fun b hb => hB b ((blk_of h1).2 hb)),h2,fun i a a' => (h3 i a a').mod m fun b hb k => (h4 _ (List.getElem_mem a') b hb).1 (hF b k),h4⟩
theorem NOwn.on {S : Nat → Prop} {w w' : World} {base : Nat} {o : Option Addr} {n c : Nat} {L : List Nd} (h : NOwn S w base o n c L) (g : Bel w w') : NOwn S w' base o n c L :=
 h.mod (Mod.of_bel (F := fun _ => False) g) (fun _ k => k.elim) (fun _ _ k => k)
theorem NOwn.wide {S S' : Nat → Prop} {w : World} {base : Nat} {o : Option Addr} {n c : Nat} {L : List Nd} (h : NOwn S w base o n c L) (hS : ∀ b,S' b → S b ∨ w.heap.size ≤ b) : NOwn S' w base o n c L := by
 obtain ⟨vs,h1,h2,h3,h4⟩ := h
 refine ⟨vs,h1,h2,h3,fun v hv b hb => ⟨fun k => ?_,(h4 v hv b hb).2⟩⟩
 obtain ⟨x,hx⟩ := nfit_of h2 h3 hv
 rcases hS b k with k | k
 ·exact (h4 v hv b hb).1 k
 ·have := hx.lt hb
  omega
theorem NOwn.app {S : Nat → Prop} {Y w' : World} {base m c : Nat} {p : Option Addr} {L : List Nd} (h : NOwn S Y base p m c L) {v : Nv} {x : Nd} (hv : NFit Y v x) (hu : ∀ b,Uses v b → ¬ S b ∧ ¬ Blk p b)
  (hw : ∀ vs,Y.ownsRow base 65 5 (.slice p m c) m (encVs vs) → ∃ o3 c3,w'.ownsRow base 65 5 (.slice o3 (m + 1) c3) (m + 1) (encVs vs ++ encV v) ∧ Y.grownBy w' (Value.ownBlock (.slice p m c)) ∧ (Value.ownBlock (.slice o3 (m + 1) c3) = Value.ownBlock (.slice p m c) ∨ Value.ownBlock (.slice o3 (m + 1) c3) = some Y.heap.size)) : ∃ o3 c3,NOwn S w' base o3 (m + 1) c3 (L ++ [x]) := by
 obtain ⟨vs,h1,h2,h3,h4⟩ := h
 obtain ⟨o3,c3,h5,g,hat⟩ := hw vs h1
 have hm : Mod (fun k => Blk p k) Y w' := Mod.grown g (fun i hi => (blk_of h1).2 hi)
 have far : ∀ (u : Nv) (y : Nd),NFit Y u y → (∀ b,Uses u b → ¬ S b ∧ ¬ Blk p b) → ∀ b,Uses u b → ¬ S b ∧ ¬ Blk o3 b := fun u y hf hq b hb => by
  refine ⟨(hq b hb).1,fun k => ?_⟩
  have k1 := (blk_of h5).1 k
  rcases hat with hat | hat
  ·rw [hat] at k1
   exact (hq b hb).2 ((blk_of h1).2 k1)
  ·rw [hat] at k1
   have := hf.lt hb
   have := Option.some.inj k1
   omega
 refine ⟨o3,c3,vs ++ [v],by rw [encVs_app,encVs_one]; exact h5,by simp [h2],fun i a a' => ?_,fun u hu' => ?_⟩
 ·rcases Nat.lt_or_ge i vs.length with hi | hi
  ·rw [List.getElem_append_left hi,List.getElem_append_left (by omega)]
   exact (h3 i (by omega) hi).mod hm fun b hb => (h4 _ (List.getElem_mem hi) b hb).2
  ·have e : i = vs.length := by simp at a'; omega
   subst e
   have e2 : (vs ++ [v])[vs.length] = v := by simp
   have e3 : (L ++ [x])[vs.length] = x := by simp [h2]
   rw [e2,e3]
   exact hv.mod hm fun b hb => (hu b hb).2
 ·rcases List.mem_append.1 hu' with hu' | hu'
  ·obtain ⟨y,hy⟩ := nfit_of h2 h3 hu'
   exact far u y hy (h4 u hu')
  ·rw [List.mem_singleton.1 hu']
   exact far v x hv hu
structure Cx where
 g : Nat
 base : Nat
 tb : Nat
 cap : Nat
 T : List (Ck × Int)
 z : Int
def Cx.tok (x : Cx) (p : Nat) : Ck × Int := (x.T[p]?).getD ((0,[],0),x.z)
def Cx.at (x : Cx) (p : Nat) : List Ck := (x.T.drop p).map Prod.fst
theorem hd_at (x : Cx) (p : Nat) : hd (x.at p) = (x.tok p).1 := by
 unfold Cx.at Cx.tok
 rcases Nat.lt_or_ge p x.T.length with h | h
 ·rw [List.drop_eq_getElem_cons h,List.getElem?_eq_getElem h]
  rfl
 ·rw [List.drop_eq_nil_of_le h,List.getElem?_eq_none h]
  rfl
theorem tail_at (x : Cx) (p : Nat) : (x.at p).tail = x.at (p + 1) := by
 unfold Cx.at
 rw [← List.map_tail,List.tail_drop]
structure TS (x : Cx) (p : Nat) (w : World) : Prop where
 tok : ∃ m d,w.cell? ⟨x.g,0,none⟩ = some (.slice (some ⟨x.tb,p * 4,none⟩) (m + 1) (d + 1)) ∧ m + p = x.T.length ∧ m ≤ d ∧ d + 1 + p = x.cap
 tks : ∀ i,i ≤ x.T.length → TokAt w x.tb (i * 4) (x.tok i).1 (x.tok i).2
 fz : ∀ j,w.frozen? ⟨x.g,j,none⟩ = false
 len : x.T.length ≤ 1000
 ne : x.tb ≠ x.g
theorem TS.mod {F : Nat → Prop} {x : Cx} {p : Nat} {w w' : World} (h : TS x p w) (m : Mod F w w') (h1 : ¬ F x.g) (h2 : ¬ F x.tb) : TS x p w' := by
 obtain ⟨m0,d,c,e⟩ := h.tok
 have hg : w'.heap[x.g]? = w.heap[x.g]? := m.block _ (cell_lt' c) h1
 exact ⟨⟨m0,d,m.cell c h1,e⟩,fun i hi => (h.tks i hi).same (m.block _ (h.tks i hi).lt h2),fun j => (World.frozen?_of_block (a := ⟨x.g,j,none⟩) hg).trans (h.fz j),h.len,h.ne⟩
structure RS (x : Cx) (S : Nat → Prop) (p : Nat) (o : Option Addr) (n c : Nat) (L : List Nd) (w : World) : Prop where
 ts : TS x p w
 nod : w.cell? ⟨x.g,1,none⟩ = some (.slice o n c)
 own : NOwn S w x.base o n c L
 lt : x.g < x.base ∧ x.tb < x.base ∧ x.base ≤ w.heap.size
 sg : S x.g
 sl : ∀ b,S b → b < w.heap.size ∧ ¬ Blk o b
 np : n ≤ p
theorem TS.pos {x : Cx} {p : Nat} {w : World} (h : TS x p w) : p ≤ x.T.length := by
 obtain ⟨m,d,-,e,-⟩ := h.tok
 omega
structure RTo (g : Nat) (o : Option Addr) (w : World) (o' : Option Addr) (w' : World) : Prop where
 mod : Mod (fun k => k = g ∨ Blk o k) w w'
 at_ : ∀ k,Blk o' k → Blk o k ∨ w.heap.size ≤ k
theorem RTo.refl (g : Nat) (o : Option Addr) (w : World) : RTo g o w o w := ⟨Mod.refl _ _,fun _ h => Or.inl h⟩
theorem RTo.trans {g : Nat} {o p q : Option Addr} {a b c : World} (h : RTo g o a p b) (k : RTo g p b q c) : RTo g o a q c :=
 ⟨h.mod.trans k.mod (fun x hx => by
  rcases hx with rfl | hx
  ·exact Or.inl (Or.inl rfl)
  ·rcases h.at_ x hx with e | e
   ·exact Or.inl (Or.inr e)
   ·exact Or.inr e),fun x hx => by
  rcases k.at_ x hx with e | e
  ·exact h.at_ x e
  ·exact Or.inr (Nat.le_trans h.mod.size e)⟩
theorem RTo.of_bel {g : Nat} {o : Option Addr} {a b : World} (h : Bel a b) : RTo g o a o b := ⟨Mod.of_bel h,fun _ e => Or.inl e⟩
theorem RTo.bel {g : Nat} {o p : Option Addr} {a b c : World} (h : RTo g o a p b) (k : Bel b c) : RTo g o a p c := h.trans (RTo.of_bel k)
theorem RS.on {x : Cx} {S : Nat → Prop} {p : Nat} {o : Option Addr} {n c : Nat} {L : List Nd} {w w' : World} (h : RS x S p o n c L w) (b : Bel w w') : RS x S p o n c L w' :=
 ⟨h.ts.mod (Mod.of_bel (F := fun _ => False) b) (fun k => k) (fun k => k),b.cell' h.nod,h.own.on b,⟨h.lt.1,h.lt.2.1,Nat.le_trans h.lt.2.2 b.size⟩,h.sg,fun q hq => ⟨Nat.lt_of_lt_of_le (h.sl q hq).1 b.size,(h.sl q hq).2⟩,h.np⟩
theorem RS.wide {x : Cx} {S S' : Nat → Prop} {p : Nat} {o : Option Addr} {n c : Nat} {L : List Nd} {w w' : World} (h : RS x S p o n c L w) (b : Bel w w') (hS : ∀ q,S' q → S q ∨ w.heap.size ≤ q) (hl : ∀ q,S' q → q < w'.heap.size) (hg : S' x.g) : RS x S' p o n c L w' :=
 have k := h.on b
 ⟨k.ts,k.nod,(h.own.wide hS).on b,k.lt,hg,fun q hq => ⟨hl q hq,fun hb => by
  rcases hS q hq with e | e
  ·exact (h.sl q e).2 hb
  ·have := (h.own.blk hb).2
   omega⟩,k.np⟩
theorem RS.less {x : Cx} {S S' : Nat → Prop} {p : Nat} {o : Option Addr} {n c : Nat} {L : List Nd} {w : World} (h : RS x S p o n c L w) (hS : ∀ q,S' q → S q) (hg : S' x.g) : RS x S' p o n c L w :=
 h.wide (Bel.refl w) (fun q hq => Or.inl (hS q hq)) (fun q hq => (h.sl q (hS q hq)).1) hg
theorem RS.mod {F : Nat → Prop} {x : Cx} {S : Nat → Prop} {p : Nat} {o : Option Addr} {n c : Nat} {L : List Nd} {w w' : World} (h : RS x S p o n c L w) (m : Mod F w w') (hF : ∀ b,F b → S b) (hg : ¬ F x.g) (ht : ¬ F x.tb) : RS x S p o n c L w' :=
 ⟨h.ts.mod m hg ht,m.cell h.nod hg,h.own.mod m hF (fun b hb k => (h.sl b (hF b k)).2 hb),⟨h.lt.1,h.lt.2.1,Nat.le_trans h.lt.2.2 m.size⟩,h.sg,fun q hq => ⟨Nat.lt_of_lt_of_le (h.sl q hq).1 m.size,(h.sl q hq).2⟩,h.np⟩

theorem box5 (w : World) (a b c d e : Value) (t : TypeId) : (w.alloc (.cells #[a,b,c,d,e] t)).cell? ⟨w.heap.size,0,none⟩ = some a ∧ (w.alloc (.cells #[a,b,c,d,e] t)).cell? ⟨w.heap.size,1,none⟩ = some b ∧ (w.alloc (.cells #[a,b,c,d,e] t)).cell? ⟨w.heap.size,2,none⟩ = some c ∧ (w.alloc (.cells #[a,b,c,d,e] t)).cell? ⟨w.heap.size,3,none⟩ = some d ∧ (w.alloc (.cells #[a,b,c,d,e] t)).cell? ⟨w.heap.size,4,none⟩ = some e :=
 ⟨World.cell?_alloc_new ..,World.cell?_alloc_new ..,World.cell?_alloc_new ..,World.cell?_alloc_new ..,World.cell?_alloc_new ..⟩
theorem heap_new (W : World) (o : Obj) : (W.alloc o).heap[W.heap.size]? = some o := by show (W.heap.push o)[W.heap.size]? = _; simp
def nodV (v : Nv) : Value := .agg #[.int .i64 v.k,.string ⟨v.s.toArray⟩,.int .i64 v.i,.slice v.ko v.kn v.kc,.slice v.jo v.jn v.jc]
theorem add_any {x : Cx} {S : Nat → Prop} {p : Nat} {o : Option Addr} {n c : Nat} {L : List Nd} (v : Nv) (y : Nd) (w : World) (h : RS x S p o n c L w) (hv : NFit w v y) (hu : ∀ b,Uses v b → ¬ S b ∧ ¬ Blk o b) (hn : n + 1 ≤ p) :
  Calls Tryz.prog 181 #[.pointer (some ⟨x.g,0,none⟩),nodV v] w fun e w' => e = .returned (.int .i64 (n : Int)) ∧ ∃ o' c',RS x S p o' (n + 1) c' (L ++ [y]) w' ∧ RTo x.g o w o' w' := by
 obtain ⟨k,s,i,ko,kn,kc,jo,jn,jc⟩ := v
 unfold nodV
 dsimp only
 obtain ⟨W,hW⟩ : ∃ W,w.alloc (.cells #[.int .i64 k,.string ⟨s.toArray⟩,.int .i64 i,.slice ko kn kc,.slice jo jn jc] 65) = W := ⟨_,rfl⟩
 have B0 : Bel w W := by rw [← hW]; exact Bel.alloc (Bel.refl w) _
 obtain ⟨y0,y1,y2,y3,y4⟩ : (W.cell? ⟨w.heap.size,0,none⟩ = some (.int .i64 k) ∧ W.cell? ⟨w.heap.size,1,none⟩ = some (.string ⟨s.toArray⟩) ∧ W.cell? ⟨w.heap.size,2,none⟩ = some (.int .i64 i) ∧ W.cell? ⟨w.heap.size,3,none⟩ = some (.slice ko kn kc) ∧ W.cell? ⟨w.heap.size,4,none⟩ = some (.slice jo jn jc)) := by
  rw [← hW]
  exact box5 w _ _ _ _ _ _
 have hR := h.on B0
 have HR := Lib.hid hR
 have c1 := hR.nod
 have f1 := hR.ts.fz 1
 have hgs : x.g < W.heap.size := cell_lt' hR.nod
 have hnb : Hid (¬ Blk o x.g) := Lib.hid ((h.sl _ h.sg).2)
 have HB := Lib.hid B0
 have hnn : n ≤ 1000 := by have := h.ts.pos; have := h.ts.len; omega
 have Hn := Lib.hid hn
 have HV := Lib.hid (hv.on B0)
 have HU := Lib.hid hu
 obtain ⟨i0,hi0,hz0,hz1,hz2⟩ := info_parts info_node
 have Hi0 := Lib.hid hi0
 have Hz0 := Lib.hid hz0
 have Hz1 := Lib.hid hz1
 have Hz2 := Lib.hid hz2
 obtain ⟨vs,hown,hvl,hvf,hvu⟩ := hR.own
 have Hvs : Hid (∀ W',Bel W W' → W'.ownsRow x.base 65 5 (.slice o n c) n (encVs vs)) := Lib.hid fun W' hW' => own_belz hown hW'
 have hbt : Hid (∀ k,Blk o k → (Value.slice o n c).ownBlock = some k) := Lib.hid fun k hk => (blk_of hown).1 hk
 have hnw : Hid (∀ W' : World,W'.heap[W.heap.size]? = some (.cells #[.int .i64 k,.string ⟨s.toArray⟩,.int .i64 i,.slice ko kn kc,.slice jo jn jc] 65) → ∀ j u,[.int .i64 k,.string ⟨s.toArray⟩,.int .i64 i,.slice ko kn kc,.slice jo jn jc][j]? = some u → W'.cell? ((⟨W.heap.size,0,none⟩ : Addr).add j) = some u) := Lib.hid fun W' hW' => World.news_of_block (cs := #[.int .i64 k,.string ⟨s.toArray⟩,.int .i64 i,.slice ko kn kc,.slice jo jn jc]) (t := 65) (fr := (0,0)) hW'
 have hpl : Hid ((W.alloc (.cells #[.int .i64 k,.string ⟨s.toArray⟩,.int .i64 i,.slice ko kn kc,.slice jo jn jc] 65)).heap[W.heap.size]? = some (.cells #[.int .i64 k,.string ⟨s.toArray⟩,.int .i64 i,.slice ko kn kc,.slice jo jn jc] 65)) := Lib.hid (heap_new W _)
 have hbaseB : Hid (∀ W',Bel W W' → x.base ≤ W'.heap.size) := Lib.hid fun W' hW' => Nat.le_trans HR.out.lt.2.2 hW'.size
 have hml : Hid (n + 1 ≤ maxLen) := Lib.hid (by unfold maxLen; omega)
 have hml2 : Hid ((n + 1) * 80 ≤ 140737488355328) := Lib.hid (by omega)
 have hfar : Hid (∀ W' w1,Bel W W' → W'.grownBy w1 (Value.slice o n c).ownBlock → w1.cell? ⟨x.g,1,none⟩ = some (.slice o n c) ∧ w1.frozen? ⟨x.g,1,none⟩ = false) := Lib.hid fun W' w1 hW' hg => by
  have hne : some x.g ≠ (Value.slice o n c).ownBlock := fun e => hnb.out ((blk_of hown).2 e.symm)
  have hlt : x.g < W'.heap.size := Nat.lt_of_lt_of_le hgs hW'.size
  exact ⟨(hg.cell_far ⟨x.g,1,none⟩ hlt hne).trans (hW'.cell' HR.out.nod),(hg.frozen_far ⟨x.g,1,none⟩ hlt hne).trans ((HR.out.on hW').ts.fz 1)⟩
 have hfin : Hid (∀ (W' w1 : World) (gg cap : Nat),Bel W W' → w1.ownsRow x.base 65 5 (.slice (some ⟨gg,0,none⟩) (n + 1) cap) (n + 1) (encVs vs ++ [.int .i64 k,.string ⟨s.toArray⟩,.int .i64 i,.slice ko kn kc,.slice jo jn jc]) → W'.grownBy w1 (Value.slice o n c).ownBlock → ((Value.slice o n c).ownBlock = some gg ∨ gg = W'.heap.size) →
   ∃ o' c',RS x S p o' (n + 1) c' (L ++ [y]) (w1.setCell ⟨x.g,1,none⟩ (.slice (some ⟨gg,0,none⟩) (n + 1) cap)) ∧ RTo x.g o w o' (w1.setCell ⟨x.g,1,none⟩ (.slice (some ⟨gg,0,none⟩) (n + 1) cap))) := Lib.hid fun W' w1 gg cap hW' hown1 hg hat => by
  have hne : some x.g ≠ (Value.slice o n c).ownBlock := fun e => hnb.out ((blk_of hown).2 e.symm)
  have hlt : x.g < W'.heap.size := Nat.lt_of_lt_of_le hgs hW'.size
  have hm : Mod (fun k => k = x.g ∨ Blk o k) w w1 := ((Mod.of_bel (F := fun k => k = x.g ∨ Blk o k) (HB.out.trans hW')).trans (Mod.grown (F := fun k => k = x.g ∨ Blk o k) hg (fun b hb => Or.inr ((blk_of hown).2 hb))) (fun _ h => Or.inl h))
  have hmB : Mod (fun k => Blk o k) W' w1 := Mod.grown hg (fun b hb => (blk_of hown).2 hb)
  have hRW := HR.out.on hW'
  have htb : ¬ Blk o x.tb := fun hb => by have h1 := (HR.out.own.blk hb).1; have h2 := HR.out.lt.2.1; omega
  have hv' : NFit W' ⟨k,s,i,ko,kn,kc,jo,jn,jc⟩ y := HV.out.on hW'
  have hnO : NOwn S w1 x.base (some ⟨gg,0,none⟩) (n + 1) cap (L ++ [y]) := by
   refine ⟨vs ++ [⟨k,s,i,ko,kn,kc,jo,jn,jc⟩],by rw [encVs_app,encVs_one]; exact hown1,by simp [hvl],fun j a a' => ?_,fun u hu' b hb => ?_⟩
   ·rcases Nat.lt_or_ge j vs.length with hj | hj
    ·rw [List.getElem_append_left hj,List.getElem_append_left (by omega)]
     exact ((hvf j (by omega) hj).on hW').mod hmB fun b hb => (hvu _ (List.getElem_mem hj) b hb).2
    ·have e : j = vs.length := by simp at a'; omega
     subst e
     have e2 : (vs ++ [(⟨k,s,i,ko,kn,kc,jo,jn,jc⟩ : Nv)])[vs.length] = ⟨k,s,i,ko,kn,kc,jo,jn,jc⟩ := by simp
     have e3 : (L ++ [y])[vs.length] = y := by simp [hvl]
     rw [e2,e3]
     exact hv'.mod hmB fun b hb => (HU.out b hb).2
   ·have hq : ¬ S b ∧ ¬ Blk o b ∧ b < W'.heap.size := by
     rcases List.mem_append.1 hu' with hu' | hu'
     ·obtain ⟨z,hz⟩ := nfit_of hvl hvf hu'
      exact ⟨(hvu u hu' b hb).1,(hvu u hu' b hb).2,Nat.lt_of_lt_of_le (hz.lt hb) hW'.size⟩
     ·rw [List.mem_singleton.1 hu'] at hb
      exact ⟨(HU.out b hb).1,(HU.out b hb).2,hv'.lt hb⟩
    refine ⟨hq.1,?_⟩
    rintro ⟨off,hq'⟩
    simp only [Option.some.injEq,Addr.mk.injEq] at hq'
    obtain ⟨rfl,-⟩ := hq'
    rcases hat with e | e
    ·exact hq.2.1 ((blk_of hown).2 e)
    ·omega
  have hms : Mod (fun k => k = x.g) w1 (w1.setCell ⟨x.g,1,none⟩ (.slice (some ⟨gg,0,none⟩) (n + 1) cap)) := (Mod.refl (fun k => k = x.g) w1).setCell (p := ⟨x.g,1,none⟩) (Or.inl rfl) _
  have hgx : gg ≠ x.g := fun e => by
   rcases hat with q | q
   ·exact hnb.out ((blk_of hown).2 (by rw [q,e]))
   ·omega
  refine ⟨some ⟨gg,0,none⟩,cap,⟨?_,?_,?_,⟨HR.out.lt.1,HR.out.lt.2.1,?_⟩,HR.out.sg,?_,Hn.out⟩,⟨hm.setCell (Or.inl (Or.inl rfl)) _,?_⟩⟩
  ·have h1 : TS x p w1 := hRW.ts.mod hmB (fun k => hnb.out k) htb
   obtain ⟨m0,d0,q1,q2⟩ := h1.tok
   exact ⟨⟨m0,d0,(World.cell?_setCell_other w1 ⟨x.g,1,none⟩ ⟨x.g,0,none⟩ _ (by simp)).trans q1,q2⟩,fun i hi => (h1.tks i hi).same (hms.block _ (h1.tks i hi).lt h1.ne),fun j => by rw [World.frozen?_setCell]; exact h1.fz j,h1.len,h1.ne⟩
  ·exact World.cell?_setCell_same w1 _ _ ((hg.cell_far ⟨x.g,1,none⟩ hlt hne).trans (hW'.cell' HR.out.nod))
  ·exact hnO.mod hms (fun b hb => by rw [hb]; exact HR.out.sg) (fun b hb => by
    rintro rfl
    obtain ⟨off,hq⟩ := hb
    simp only [Option.some.injEq,Addr.mk.injEq] at hq
    exact hgx hq.1)
  ·have h2 : x.base ≤ w1.heap.size := Nat.le_trans HR.out.lt.2.2 (Nat.le_trans hW'.size hg.size)
   simpa [World.setCell] using h2
  ·intro b hb
   have h1 := HR.out.sl b hb
   refine ⟨by have := Nat.lt_of_lt_of_le h1.1 (Nat.le_trans hW'.size hg.size); simpa [World.setCell] using this,?_⟩
   rintro ⟨off,hq⟩
   simp only [Option.some.injEq,Addr.mk.injEq] at hq
   obtain ⟨rfl,-⟩ := hq
   rcases hat with q | q
   ·exact h1.2 ((blk_of hown).2 q)
   ·have := Nat.lt_of_lt_of_le h1.1 hW'.size
    omega
  ·rintro q ⟨off,hq⟩
   simp only [Option.some.injEq,Addr.mk.injEq] at hq
   obtain ⟨rfl,-⟩ := hq
   rcases hat with h | h
   ·exact Or.inl ((blk_of hown).2 h)
   ·exact Or.inr (by rw [h]; exact Nat.le_trans HB.out.size hW'.size)
 have hsub : (n : Int) + 1 - 1 = n := by omega
 clear h hv hu B0 hi0 hz0 hz1 hz2 hn hR hown hvl hvf hvu
 go_enter Tryz.func181,Tryz.ntmps181
 go_upto_region 1 with (fail)
 clear hW
 go_region_law (refine step_append_lies _ (by rfl) _ _ _ (by rfl) x.base 65 i0 _ 5 80 Tryz.underlying22 Hi0.out Hz0.out Hz1.out Hz2.out rfl (by omega) _ _ _ (by rfl) (Hvs.out _ (by repeat (first | exact Bel.refl _ | refine Below.drew ?_ | refine Bel.alloc ?_ _))) ⟨W.heap.size,0,none⟩ 1 1 [.int .i64 k,.string ⟨s.toArray⟩,.int .i64 i,.slice ko kn kc,.slice jo jn jc] (by rfl) (by rfl) (hnw.out _ hpl.out) (by simp [Value.oneCell']) (by omega) hml.out hml2.out (hbaseB.out _ (by repeat (first | exact Bel.refl _ | refine Below.drew ?_ | refine Bel.alloc ?_ _))) _ rfl ?_; intro gg cap w1 hown1 hgrow hat hlt; obtain ⟨q1,q2⟩ := hfar.out _ w1 (by repeat (first | exact Bel.refl _ | refine Below.drew ?_ | refine Bel.alloc ?_ _)) hgrow)
 all_goals
  have hR3 := Lib.hid (hfin.out _ w1 gg cap (by repeat (first | exact Bel.refl _ | refine Below.drew ?_ | refine Bel.alloc ?_ _)) hown1 hgrow hat)
  have n3 : (w1.setCell ⟨x.g,1,none⟩ (.slice (some ⟨gg,0,none⟩) (n + 1) cap)).cell? ⟨x.g,1,none⟩ = some (.slice (some ⟨gg,0,none⟩) (n + 1) cap) := World.cell?_setCell_same w1 _ _ q1
  generalize w1.setCell ⟨x.g,1,none⟩ (.slice (some ⟨gg,0,none⟩) (n + 1) cap) = w3 at *
  clear q1 q2 hown1 hgrow hat hfin hfar hnw hpl hbaseB HV HU y0 y1 y2 y3 y4 c1 f1
  go_wp2
  go_ret
  exact ⟨rfl,hR3.out⟩

def tokV (t : Ck × Int) : Value := .agg #[.int .i64 t.1.1,.string ⟨t.1.2.1.toArray⟩,.int .i64 t.1.2.2,.int .i64 t.2]
theorem elem_tok : Tryz.prog.underlying 49 = some (.slice (Tryz.prog.elem 49)) := by kernel_rfl
theorem size_tok (w : World) : (sizeOf (Tryz.prog.elem 49)).run Tryz.prog w = .ok 4 w := by kernel_rfl
theorem cutT (b q n c : Nat) (_hn : n ≤ c) (hc : 0 < c) (w : World) : (Instr.slice 49 (.slice (some ⟨b,q,none⟩) (n + 1) (c + 1)) (some (.int .i64 1)) none none).run Tryz.prog w = .ok (.slice (some ⟨b,q + 4,none⟩) n c) w := by
 rw [run_slice_l w _ _ _ _ elem_tok .i64 _ (by omega) (by omega),size_tok]
 have h : ¬ c = 0 := by omega
 simp [Result.andThen,sliced,h,Addr.add]
theorem TS.step {x : Cx} {p m d : Nat} {w : World} (h : TS x p w) (hc : w.cell? ⟨x.g,0,none⟩ = some (.slice (some ⟨x.tb,p * 4,none⟩) (m + 2) (d + 2))) : TS x (p + 1) (w.setCell ⟨x.g,0,none⟩ (.slice (some ⟨x.tb,p * 4 + 4,none⟩) (m + 1) (d + 1))) := by
 obtain ⟨m0,d0,c0,e1,e2,e3⟩ := h.tok
 rw [hc] at c0
 simp only [Option.some.injEq,Value.slice.injEq] at c0
 have hms : Mod (fun k => k = x.g) w (w.setCell ⟨x.g,0,none⟩ (.slice (some ⟨x.tb,p * 4 + 4,none⟩) (m + 1) (d + 1))) := (Mod.refl (fun k => k = x.g) w).setCell (p := ⟨x.g,0,none⟩) (Or.inl rfl) _
 refine ⟨⟨m,d,?_,by omega,by omega,by omega⟩,fun i hi => (h.tks i hi).same (hms.block _ (h.tks i hi).lt h.ne),fun j => by rw [World.frozen?_setCell]; exact h.fz j,h.len,h.ne⟩
 rw [show (p + 1) * 4 = p * 4 + 4 by omega]
 exact World.cell?_setCell_same w _ _ hc
theorem RS.step {x : Cx} {S : Nat → Prop} {p m d : Nat} {o : Option Addr} {n c : Nat} {L : List Nd} {w : World} (h : RS x S p o n c L w) (hc : w.cell? ⟨x.g,0,none⟩ = some (.slice (some ⟨x.tb,p * 4,none⟩) (m + 2) (d + 2))) :
  RS x S (p + 1) o n c L (w.setCell ⟨x.g,0,none⟩ (.slice (some ⟨x.tb,p * 4 + 4,none⟩) (m + 1) (d + 1))) ∧ RTo x.g o w o (w.setCell ⟨x.g,0,none⟩ (.slice (some ⟨x.tb,p * 4 + 4,none⟩) (m + 1) (d + 1))) := by
 have hms : Mod (fun k => k = x.g) w (w.setCell ⟨x.g,0,none⟩ (.slice (some ⟨x.tb,p * 4 + 4,none⟩) (m + 1) (d + 1))) := (Mod.refl (fun k => k = x.g) w).setCell (p := ⟨x.g,0,none⟩) (Or.inl rfl) _
 refine ⟨⟨h.ts.step hc,(World.cell?_setCell_other w ⟨x.g,0,none⟩ ⟨x.g,1,none⟩ _ (by simp)).trans h.nod,h.own.mod hms (fun b hb => by rw [hb]; exact h.sg) (fun b hb k => (h.sl _ h.sg).2 (by rw [← k]; exact hb)),⟨h.lt.1,h.lt.2.1,Nat.le_trans h.lt.2.2 hms.size⟩,h.sg,fun b hb => ⟨Nat.lt_of_lt_of_le (h.sl b hb).1 hms.size,(h.sl b hb).2⟩,by have := h.np; omega⟩,⟨hms.weak fun k hk => Or.inl hk,fun _ e => Or.inl e⟩⟩
theorem take_any {x : Cx} {S : Nat → Prop} {p : Nat} {o : Option Addr} {n c : Nat} {L : List Nd} (w : World) (h : RS x S p o n c L w) (hp : p < x.T.length) :
  Calls Tryz.prog 120 #[.pointer (some ⟨x.g,0,none⟩)] w fun e w' => e = .returned (tokV (x.tok p)) ∧ RS x S (p + 1) o n c L w' ∧ RTo x.g o w o w' := by
 obtain ⟨m,d,c0,e1,e2,e3⟩ := h.ts.tok
 obtain ⟨m,rfl⟩ : ∃ m',m = m' + 1 := ⟨m - 1,by omega⟩
 obtain ⟨d,rfl⟩ : ∃ d',d = d' + 1 := ⟨d - 1,by omega⟩
 obtain ⟨t0,t1,t2,t3⟩ := h.ts.tks p (by omega)
 have HS := Lib.hid (fun W' (g : Bel w W') => (h.on g).step (m := m) (d := d) (g.cell' c0))
 have hcut := fun W : World => cutT x.tb (p * 4) (m + 1) (d + 1) (by omega) (by omega) W
 unfold tokV
 have f0 := h.ts.fz 0
 have hlt : x.g < w.heap.size := cell_lt' c0
 have htb : x.tb < w.heap.size := cell_lt' t0
 generalize x.tok p = t at *
 obtain ⟨⟨tk,tx,ti⟩,ta⟩ := t
 dsimp only at t0 t1 t2 t3 ⊢
 clear h e1 e2 e3 hp
 generalize p * 4 = q at *
 go_enter Tryz.func120,Tryz.ntmps120
 go_wp2
 obtain ⟨k1,k2⟩ := HS.out w (Bel.refl w)
 have k3 : ∀ W1 o1 o2,Bel W1 ((World.alloc W1 o1).alloc o2) := fun W1 o1 o2 => Bel.alloc (Bel.alloc (Bel.refl W1) o1) o2
 refine bodyPost_ret (v := .agg #[.int .i64 tk,.string ⟨tx.toArray⟩,.int .i64 ti,.int .i64 ta]) (by simp [results,Tryz.results120,go_sem]) rfl ?_
 exact ⟨rfl,k1.on (k3 _ _ _),k2.bel (k3 _ _ _)⟩
end Syn
end Go.Proofs.YtcapkeaedpabjaaGreatDoor
