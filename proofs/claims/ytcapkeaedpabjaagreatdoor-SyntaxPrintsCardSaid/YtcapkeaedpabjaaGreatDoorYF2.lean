/-
  Layer 8, texts merged: SynQ, SynR, SynS, SynT, SynU, SynV. For every argument within the bounds that each theorem names.
-/
import Derived.Test.YtcapkeaedpabjaaGreatDoorYF1
import Derived.Test.YtcapkeaedpabjaaGreatDoorShelf
import Derived.WalkSmall
set_option maxRecDepth 100000
set_option maxHeartbeats 16000000

/-
 Layer 8: sees, accept, expect, name, as the program has them.
-/
namespace Go.Proofs.YtcapkeaedpabjaaGreatDoor
open Go.RowKit Go.ChangeShapes Go.WideShapes
namespace Syn

theorem bz_inj {a b : Txt} (h : bz a = bz b) : a = b := by
 have := congrArg (fun z : ByteArray => z.data.toList) h
 simpa [bz] using this
theorem contains_bz (ss : List Txt) (s : Txt) : Lib.containsS (ss.map bz) (bz s) = ss.contains s := by
 rw [Bool.eq_iff_iff,Lib.containsS_iff,List.contains_iff_mem,List.mem_map]
 constructor
 ·rintro ⟨a,ha,e⟩
  rw [← bz_inj e]
  exact ha
 ·intro h
  exact ⟨s,h,rfl⟩
theorem sl_addr {w : World} {o : Option Addr} {n : Nat} {xs : List ByteArray} (h : SlArg w o n xs) (hn : 0 < n) : ∃ b off,o = some ⟨b,off,none⟩ ∧ ∀ j,j < xs.length → w.cell? ⟨b,off + j,none⟩ = some (.string (xs.getD j ByteArray.empty)) := by
 have hl := h.1
 obtain ⟨⟨b,off,sp⟩,rfl,hc⟩ := h.2 0 (by omega)
 have hs : sp = none := by
  cases sp with
  | none => rfl
  | some x =>
   unfold World.cell? Addr.add at hc
   rw [if_pos rfl] at hc
   split at hc
   ·simp at hc
   ·cases hc
 subst hs
 refine ⟨b,off,rfl,fun j hj => ?_⟩
 obtain ⟨a,e,c⟩ := h.2 j hj
 obtain rfl := Option.some.inj e
 rw [Lib.add_plain] at c
 rw [c,List.getD_eq_getElem?_getD,List.getElem?_eq_getElem hj]
 rfl
theorem contains_any (o : Option Addr) (n c : Nat) (ss : List Txt) (s : Txt) (hn : n ≤ 4611686018427387904) (w : World) (hA : KArg w o n ss) :
  Calls Tryz.prog 179 #[.slice o n c,.string ⟨s.toArray⟩] w fun e w' => e = .returned (.bool (ss.contains s)) ∧ w = w' := by
 have hl := hA.1
 by_cases h0 : n = 0
 ·subst h0
  obtain rfl : ss = [] := by
   rw [List.length_map] at hl
   exact List.eq_nil_of_length_eq_zero hl
  exact (Tryz.slices_Contains_string_empty o c _ w).mono fun e w' ⟨he,hw⟩ => ⟨he,hw.symm⟩
 ·obtain ⟨b,off,rfl,hc⟩ := sl_addr hA (by omega)
  exact (Tryz.slices_Contains_string b off n c (ss.map bz) (bz s) w (by omega) (by omega) hc).mono fun e w' ⟨he,hw⟩ => ⟨by rw [he,List.take_of_length_le (by omega),contains_bz],hw.symm⟩
theorem KArg.on {w w' : World} {o : Option Addr} {n : Nat} {l : List Txt} (h : KArg w o n l) (b : Bel w w') : KArg w' o n l := SlArg.on h b
theorem sees_any {x : Cx} {p : Nat} (ss : List Txt) (o : Option Addr) (k c : Nat) (hk : k ≤ 1000) (w : World) (h : TS x p w) (hA : KArg w o k ss) :
  Calls Tryz.prog 119 #[.pointer (some ⟨x.g,0,none⟩),.slice o k c] w fun e w' => e = .returned (.bool (inT ss (hd (x.at p)))) ∧ Bel w w' := by
 obtain ⟨m,d,c0,e1,e2,e3⟩ := h.tok
 obtain ⟨t0,t1,t2,t3⟩ := h.tks p h.pos
 rw [hd_at]
 have hlt : x.g < w.heap.size := cell_lt' c0
 have htb : x.tb < w.heap.size := cell_lt' t0
 generalize x.tok p = t at *
 obtain ⟨⟨tk,tx,ti⟩,ta⟩ := t
 dsimp only at t0 t1 t2 t3 ⊢
 have HC := Lib.hid (fun W' (g : Bel w W') => contains_any o k c ss tx (by omega) W' (hA.on g))
 unfold inT
 dsimp only
 clear h e1 e2 e3 hA
 generalize p * 4 = q at *
 by_cases h2 : tk = 2
 ·subst h2
  go_enter Tryz.func119,Tryz.ntmps119
  go_wp2_with fail
  refine (HC.out _ (Bel.alloc (Bel.refl _) _)).mono ?_
  rintro e w' ⟨rfl,rfl⟩
  go_wp2
  go_ret
  exact ⟨by simp,Bel.alloc (Bel.refl _) _⟩
 ·by_cases h5 : tk = 5
  ·subst h5
   go_enter Tryz.func119,Tryz.ntmps119
   go_wp2_with fail
   refine (HC.out _ (Bel.alloc (Bel.refl _) _)).mono ?_
   rintro e w' ⟨rfl,rfl⟩
   go_wp2
   go_ret
   exact ⟨by simp,Bel.alloc (Bel.refl _) _⟩
  ·have b2 : (tk == 2) = false := by simpa using h2
   have b5 : (tk == 5) = false := by simpa using h5
   go_enter Tryz.func119,Tryz.ntmps119
   go_wp2
   go_ret
   exact ⟨by simp [b2,b5],Bel.alloc (Bel.refl _) _⟩
theorem isT_lt {x : Cx} {p : Nat} {ss : List Txt} (h : inT ss (hd (x.at p)) = true) : p < x.T.length := by
 rcases Nat.lt_or_ge p x.T.length with k | k
 ·exact k
 ·rw [hd_at] at h
  unfold Cx.tok at h
  rw [List.getElem?_eq_none k] at h
  cases h
theorem kind_lt {x : Cx} {p : Nat} {k : Int} (h : (hd (x.at p)).1 = k) (hk : k ≠ 0) : p < x.T.length := by
 rcases Nat.lt_or_ge p x.T.length with q | q
 ·exact q
 ·rw [hd_at] at h
  unfold Cx.tok at h
  rw [List.getElem?_eq_none q] at h
  exact absurd h.symm hk
theorem one_karg (w : World) (s : Txt) (t : TypeId) : KArg (w.alloc (.cells #[.string ⟨s.toArray⟩] t)) (some ⟨w.heap.size,0,none⟩) 1 [s] :=
 ⟨rfl,fun i hi => ⟨_,rfl,by
  have e : i = 0 := by simp at hi; omega
  subst e
  rw [Lib.add_plain,World.cell?_alloc_new]
  rfl⟩⟩
theorem accept_any {x : Cx} {S : Nat → Prop} {p : Nat} {o : Option Addr} {n c : Nat} {L : List Nd} (s : Txt) (w : World) (h : RS x S p o n c L w) :
  Calls Tryz.prog 67 #[.pointer (some ⟨x.g,0,none⟩),.string ⟨s.toArray⟩] w fun e w' => e = .returned (.bool (isT s (hd (x.at p)))) ∧ (if isT s (hd (x.at p)) then RS x S (p + 1) o n c L w' else RS x S p o n c L w') ∧ RTo x.g o w o w' := by
 have HS := Lib.hid (sees_any (x := x) (p := p) [s] (some ⟨w.heap.size,0,none⟩) 1 1 (by decide) _ (h.on (Bel.alloc (Bel.refl w) (.cells #[.string ⟨s.toArray⟩] 9))).ts (one_karg w s _))
 have HT := Lib.hid (fun W' (g : Bel w W') (hp : p < x.T.length) => take_any W' (h.on g) hp)
 have H := Lib.hid h
 unfold isT
 clear h
 cases hb : inT [s] (hd (x.at p)) with
 | false =>
  rw [hb] at HS
  go_enter Tryz.func67,Tryz.ntmps67
  go_wp2_with fail
  refine HS.out.mono ?_
  rintro e w' ⟨rfl,g⟩
  have G := Lib.hid (Bel.trans (Bel.alloc (Bel.refl w) _) g)
  clear g
  go_wp2_with fail
  go_ret
  exact ⟨rfl,H.out.on G.out,RTo.of_bel G.out⟩
 | true =>
  rw [hb] at HS
  have hp := Lib.hid (isT_lt hb)
  go_enter Tryz.func67,Tryz.ntmps67
  go_wp2_with fail
  refine HS.out.mono ?_
  rintro e w' ⟨rfl,g⟩
  have G := Lib.hid (Bel.trans (Bel.alloc (Bel.refl w) _) g)
  clear g
  go_wp2_with fail
  refine (HT.out _ G.out hp.out).mono ?_
  rintro e w2 ⟨rfl,r2,t2⟩
  have R2 := Lib.hid r2
  have T2 := Lib.hid ((RTo.of_bel G.out).trans t2)
  clear r2 t2
  go_wp2_with fail
  go_ret
  exact ⟨rfl,R2.out,T2.out⟩
theorem accept_yes {x : Cx} {S : Nat → Prop} {p : Nat} {o : Option Addr} {n c : Nat} {L : List Nd} (s : Txt) (w : World) (h : RS x S p o n c L w) (hb : isT s (hd (x.at p)) = true) :
  Calls Tryz.prog 67 #[.pointer (some ⟨x.g,0,none⟩),.string ⟨s.toArray⟩] w fun e w' => e = .returned (.bool true) ∧ RS x S (p + 1) o n c L w' ∧ RTo x.g o w o w' :=
 (accept_any s w h).mono fun e w' k => by rw [hb,if_pos rfl] at k; exact k
theorem accept_no {x : Cx} {S : Nat → Prop} {p : Nat} {o : Option Addr} {n c : Nat} {L : List Nd} (s : Txt) (w : World) (h : RS x S p o n c L w) (hb : isT s (hd (x.at p)) = false) :
  Calls Tryz.prog 67 #[.pointer (some ⟨x.g,0,none⟩),.string ⟨s.toArray⟩] w fun e w' => e = .returned (.bool false) ∧ RS x S p o n c L w' ∧ RTo x.g o w o w' :=
 (accept_any s w h).mono fun e w' k => by rw [hb,if_neg (by decide)] at k; exact k
theorem field_text (a b c d : Value) (w : World) : (Instr.field 54 (.agg #[a,b,c,d]) 1).run Tryz.prog w = .ok b w := by kernel_rfl
theorem field_int (a b c d : Value) (w : World) : (Instr.field 54 (.agg #[a,b,c,d]) 2).run Tryz.prog w = .ok c w := by kernel_rfl
def errV : Value := .iface 26 (.int .i64 1)
def Stops (x : Cx) (o : Option Addr) (w : World) (e : Ending) (w' : World) (r : List Ck) : Prop := e = .panicked [{ v := errV,recovered := false }] ∧ Mod (fun k => k = x.g ∨ Blk o k) w w' ∧ ∃ p',TS x p' w' ∧ r = x.at p'
theorem expect_yes {x : Cx} {S : Nat → Prop} {p : Nat} {o : Option Addr} {n c : Nat} {L : List Nd} (s : Txt) (w : World) (h : RS x S p o n c L w) (hb : isT s (hd (x.at p)) = true) :
  Calls Tryz.prog 122 #[.pointer (some ⟨x.g,0,none⟩),.string ⟨s.toArray⟩] w fun e w' => e = .returned (.tuple #[]) ∧ RS x S (p + 1) o n c L w' ∧ RTo x.g o w o w' := by
 have HA := Lib.hid (accept_yes s w h hb)
 clear h hb
 go_enter Tryz.func122,Tryz.ntmps122
 go_wp2_with fail
 refine HA.out.mono ?_
 rintro e w' ⟨rfl,r,t⟩
 have R := Lib.hid r
 have T := Lib.hid t
 clear r t
 go_wp2_with fail
 go_end0
 exact ⟨rfl,R.out,T.out⟩
theorem expect_no {x : Cx} {S : Nat → Prop} {p : Nat} {o : Option Addr} {n c : Nat} {L : List Nd} (s : Txt) (w : World) (h : RS x S p o n c L w) (hb : isT s (hd (x.at p)) = false) :
  Calls Tryz.prog 122 #[.pointer (some ⟨x.g,0,none⟩),.string ⟨s.toArray⟩] w fun e w' => Stops x o w e w' (x.at p) := by
 have HA := Lib.hid (accept_no s w h hb)
 clear h hb
 go_enter Tryz.func122,Tryz.ntmps122
 go_wp2_with fail
 refine HA.out.mono ?_
 rintro e w' ⟨rfl,r,t⟩
 have R := Lib.hid r
 have T := Lib.hid t
 clear r t
 go_wp2_with fail
 exact ⟨rfl,rfl,T.out.mod,p,R.out.ts,rfl⟩
theorem name_yes {x : Cx} {S : Nat → Prop} {p : Nat} {o : Option Addr} {n c : Nat} {L : List Nd} (w : World) (h : RS x S p o n c L w) (hb : (hd (x.at p)).1 = 1) :
  Calls Tryz.prog 121 #[.pointer (some ⟨x.g,0,none⟩)] w fun e w' => e = .returned (.string ⟨(hd (x.at p)).2.1.toArray⟩) ∧ RS x S (p + 1) o n c L w' ∧ RTo x.g o w o w' := by
 obtain ⟨m,d,c0,e1,e2,e3⟩ := h.ts.tok
 obtain ⟨t0,t1,t2,t3⟩ := h.ts.tks p h.ts.pos
 have HT := Lib.hid (take_any w h (kind_lt hb (by decide)))
 rw [hd_at] at hb ⊢
 have hlt : x.g < w.heap.size := cell_lt' c0
 have htb : x.tb < w.heap.size := cell_lt' t0
 unfold tokV at HT
 generalize x.tok p = t at *
 obtain ⟨⟨tk,tx,ti⟩,ta⟩ := t
 dsimp only at t0 t1 t2 t3 hb HT ⊢
 subst hb
 have hF := fun (a b c d : Value) (w : World) => field_text a b c d w
 clear h e1 e2 e3
 generalize p * 4 = q at *
 go_enter Tryz.func121,Tryz.ntmps121
 go_wp2_with fail
 refine HT.out.mono ?_
 rintro e w2 ⟨rfl,r2,t2⟩
 have R2 := Lib.hid r2
 have T2 := Lib.hid t2
 clear r2 t2
 go_wp2_with fail
 go_ret
 exact ⟨rfl,R2.out,T2.out⟩
theorem name_no {x : Cx} {S : Nat → Prop} {p : Nat} {o : Option Addr} {n c : Nat} {L : List Nd} (w : World) (h : RS x S p o n c L w) (hb : ¬ (hd (x.at p)).1 = 1) :
  Calls Tryz.prog 121 #[.pointer (some ⟨x.g,0,none⟩)] w fun e w' => Stops x o w e w' (x.at p) := by
 obtain ⟨m,d,c0,e1,e2,e3⟩ := h.ts.tok
 obtain ⟨t0,t1,t2,t3⟩ := h.ts.tks p h.ts.pos
 have H := Lib.hid h
 rw [hd_at] at hb
 have hlt : x.g < w.heap.size := cell_lt' c0
 have htb : x.tb < w.heap.size := cell_lt' t0
 generalize x.tok p = t at *
 obtain ⟨⟨tk,tx,ti⟩,ta⟩ := t
 dsimp only at t0 t1 t2 t3 hb
 clear h e1 e2 e3
 generalize p * 4 = q at *
 go_enter Tryz.func121,Tryz.ntmps121
 go_wp2
 exact ⟨rfl,rfl,Mod.refl _ _,p,H.out.ts,rfl⟩

theorem new_zarg (w : World) (zs : List Int) (t : TypeId) : ZArg (w.alloc (.cells (zs.map (Value.int .i64)).toArray t)) (some ⟨w.heap.size,0,none⟩) zs.length zs :=
 ⟨rfl,fun i hi => ⟨_,rfl,by
  rw [Lib.add_plain,World.cell?_alloc_new]
  simp [List.getElem?_eq_getElem hi]⟩⟩
theorem add_kids {x : Cx} {S : Nat → Prop} {p : Nat} {o : Option Addr} {n c : Nat} {L : List Nd} (k : Int) (s : Txt) (i : Int) (zs : List Int) (ty : TypeId) (w : World) (h : RS x S p o n c L w) (hn : n + 1 ≤ p) :
  Calls Tryz.prog 181 #[.pointer (some ⟨x.g,0,none⟩),.agg #[.int .i64 k,.string ⟨s.toArray⟩,.int .i64 i,.slice none 0 0,.slice (some ⟨w.heap.size,0,none⟩) zs.length zs.length]] (w.alloc (.cells (zs.map (Value.int .i64)).toArray ty)) fun e w' => e = .returned (.int .i64 (n : Int)) ∧ ∃ o' c',RS x S p o' (n + 1) c' (L ++ [⟨k,s,i,[],zs⟩]) w' ∧ RTo x.g o w o' w' := by
 have B := Bel.alloc (Bel.refl w) (.cells (zs.map (Value.int .i64)).toArray ty)
 refine (add_any (⟨k,s,i,none,0,0,some ⟨w.heap.size,0,none⟩,zs.length,zs.length⟩ : Nv) ⟨k,s,i,[],zs⟩ _ (h.on B) ⟨rfl,rfl,rfl,KArg.nil _ _,new_zarg w zs ty,Nat.le_refl _,Nat.le_refl _⟩ ?_ hn).mono ?_
 ·rintro b (⟨a,e,-,-⟩ | ⟨a,e,-,rfl⟩)
  ·cases e
  ·cases e
   refine ⟨fun hs => ?_,fun hb => ?_⟩
   ·have := (h.sl _ hs).1
    simp only at this
    omega
   ·have := (h.own.blk hb).2
    simp only at this
    omega
 ·rintro e w' ⟨rfl,o',c',r,t⟩
  exact ⟨rfl,o',c',r,(RTo.of_bel B).trans t⟩
theorem add_leaf {x : Cx} {S : Nat → Prop} {p : Nat} {o : Option Addr} {n c : Nat} {L : List Nd} (k : Int) (s : Txt) (i : Int) (w : World) (h : RS x S p o n c L w) (hn : n + 1 ≤ p) :
  Calls Tryz.prog 181 #[.pointer (some ⟨x.g,0,none⟩),.agg #[.int .i64 k,.string ⟨s.toArray⟩,.int .i64 i,.slice none 0 0,.slice none 0 0]] w fun e w' => e = .returned (.int .i64 (n : Int)) ∧ ∃ o' c',RS x S p o' (n + 1) c' (L ++ [⟨k,s,i,[],[]⟩]) w' ∧ RTo x.g o w o' w' := by
 refine add_any (⟨k,s,i,none,0,0,none,0,0⟩ : Nv) ⟨k,s,i,[],[]⟩ _ h ⟨rfl,rfl,rfl,KArg.nil _ _,ZArg.nil _ _,Nat.le_refl _,Nat.le_refl _⟩ ?_ hn
 rintro b (⟨a,e,-,-⟩ | ⟨a,e,-,-⟩) <;> cases e
theorem KArg.mod {F : Nat → Prop} {w w' : World} {o : Option Addr} {n : Nat} {l : List Txt} (h : KArg w o n l) (m : Mod F w w') (hF : ∀ a,o = some a → ¬ F a.block) : KArg w' o n l :=
 ⟨h.1,fun i hi => let ⟨a,e,c⟩ := h.2 i hi; ⟨a,e,m.cell c (by rw [add_block]; exact hF a e)⟩⟩
def EPost (x : Cx) (S : Nat → Prop) (p q n : Nat) (o : Option Addr) (L : List Nd) (X : RR T) (w : World) (e : Ending) (w' : World) : Prop :=
 match X with
 | .ok t r => e = .returned (.int .i64 ((n : Int) + (size t : Int) - 1)) ∧ ∃ p' o' c',RS x S p' o' (n + size t) c' (L ++ flat n t) w' ∧ RTo x.g o w o' w' ∧ r = x.at p' ∧ p < p' ∧ size t + q ≤ p'
 | .bad r => Stops x o w e w' r
theorem Stops.from {x : Cx} {o o' : Option Addr} {w w1 w' : World} {e : Ending} {r : List Ck} (t : RTo x.g o w o' w1) (h : Stops x o' w1 e w' r) : Stops x o w e w' r := by
 obtain ⟨h1,h2,h3⟩ := h
 refine ⟨h1,t.mod.trans h2 fun i hi => ?_,h3⟩
 rcases hi with rfl | hi
 ·exact Or.inl (Or.inl rfl)
 ·rcases t.at_ i hi with k | k
  ·exact Or.inl (Or.inr k)
  ·exact Or.inr k
theorem EPost.mk {x : Cx} {S : Nat → Prop} {p q n : Nat} {o : Option Addr} {L : List Nd} {t : T} {w w' : World} {p' : Nat} {o' : Option Addr} {c' : Nat} {z : Int} (hz : z = (n : Int) + (size t : Int) - 1) (r : RS x S p' o' (n + size t) c' (L ++ flat n t) w') (k : RTo x.g o w o' w') (h1 : p < p') (h2 : size t + q ≤ p') : EPost x S p q n o L (.ok t (x.at p')) w (.returned (.int .i64 z)) w' :=
 ⟨by rw [hz],p',o',c',r,k,rfl,h1,h2⟩
theorem EPost.from {x : Cx} {S : Nat → Prop} {p q n : Nat} {o o1 : Option Addr} {L : List Nd} {X : RR T} {w w1 w' : World} {e : Ending} (t : RTo x.g o w o1 w1) (h : EPost x S p q n o1 L X w1 e w') : EPost x S p q n o L X w e w' := by
 cases X with
 | bad r => exact Stops.from t h
 | ok u r =>
  obtain ⟨h1,p',o',c',h2,h3,h4⟩ := h
  exact ⟨h1,p',o',c',h2,t.trans h3,h4⟩
def Rd (x : Cx) (F : FuncId) (G : List Ck → RR T) (p : Nat) : Prop := ∀ (S : Nat → Prop) (o : Option Addr) (n c : Nat) (L : List Nd) (w : World),RS x S p o n c L w → Calls Tryz.prog F #[.pointer (some ⟨x.g,0,none⟩)] w (EPost x S p p n o L (G (x.at p)) w)
def binR (op : Txt) (t : T) : RR T → RR T
 | .ok u r => .ok (bin op t u) r
 | .bad r => .bad r
theorem flat_bin (n : Nat) (s : Txt) (t u : T) : flat n (bin s t u) = flat n t ++ flat (n + size t) u ++ [⟨9,s,0,[],[(n : Int) + (size t : Int) - 1,(n : Int) + (size t : Int) + (size u : Int) - 1]⟩] := by
 have h1 := size_pos t
 have h2 := size_pos u
 unfold bin
 rw [flat,flats,flats,flats,roots,roots,roots,List.append_nil]
 congr 5
 ·omega
 ·congr 1; omega
theorem size_bin (s : Txt) (t u : T) : size (bin s t u) = size t + size u + 1 := by unfold bin; rw [size,sizes,sizes,sizes]; omega
theorem binary_any {x : Cx} {S : Nat → Prop} {p0 p : Nat} {o : Option Addr} {n c : Nat} {L : List Nd} {t : T} {F : FuncId} {G : List Ck → RR T} (hent : ∀ (args : Array Value) (w : World),(callFunc F args).run Tryz.prog w = .ok (.enter F args) w)
  (w : World) (h : RS x S p o (n + size t) c (L ++ flat n t) w) (hp : p < x.T.length) (h0 : size t + p0 ≤ p) (hR : Rd x F G (p + 1)) :
  Calls Tryz.prog 276 #[.pointer (some ⟨x.g,0,none⟩),.int .i64 ((n : Int) + (size t : Int) - 1),.func (.func F) #[.pointer (some ⟨x.g,0,none⟩)] #[]] w (EPost x S p p0 n o L (binR (hd (x.at p)).2.1 t (G (x.at (p + 1)))) w) := by
 have HT := Lib.hid (take_any w h hp)
 have HR := Lib.hid hR
 have Hn := Lib.hid h.np
 rw [hd_at]
 unfold tokV at HT
 generalize x.tok p = tk at *
 obtain ⟨⟨tk,tx,ti⟩,ta⟩ := tk
 dsimp only at HT ⊢
 have hF := fun (a b c d : Value) (w : World) => field_text a b c d w
 clear h hR
 go_enter Tryz.func276,Tryz.ntmps276
 go_wp2_with fail
 refine HT.out.mono ?_
 rintro e w1 ⟨rfl,r1,t1⟩
 have R1 := Lib.hid r1
 have T1 := Lib.hid t1
 clear r1 t1
 go_wp2_with fail
 refine (HR.out S _ _ _ _ w1 R1.out).mono ?_
 intro e w2 h2
 cases hg : G (x.at (p + 1)) with
 | bad r =>
  rw [hg] at h2
  have H2 : Stops x o w e w2 r := Stops.from T1.out h2
  obtain ⟨rfl,H2b⟩ := H2
  have H2c := Lib.hid H2b
  clear h2 H2b
  go_wp2_with fail
  exact ⟨rfl,rfl,H2c.out⟩
 | ok u r =>
  rw [hg] at h2
  obtain ⟨rfl,p2,o2,c2,r2,t2,rfl,hp2,hs2⟩ := h2
  have R2 := Lib.hid r2
  have T2 := Lib.hid (T1.out.trans t2)
  clear r2 t2
  have HA := Lib.hid (add_kids 9 tx 0 [(n : Int) + (size t : Int) - 1,(n : Int) + (size t : Int) + (size u : Int) - 1] 3 w2 R2.out (by have := Hn.out; omega))
  go_wp2_with fail
  refine HA.out.mono ?_
  rintro e w3 ⟨rfl,o3,c3,r3,t3⟩
  have R3 := Lib.hid r3
  have T3 := Lib.hid (T2.out.trans t3)
  clear r3 t3
  go_wp2_with fail
  go_ret
  rw [hg]
  refine EPost.mk (p := p) (q := p0) (p' := p2) (t := bin tx t u) (o' := o3) (c' := c3) (by rw [size_bin] <;> omega) ?_ T3.out (by omega) (by rw [size_bin]; omega)
  rw [flat_bin,size_bin,← List.append_assoc,← List.append_assoc,show n + (size t + size u + 1) = n + size t + size u + 1 by omega]
  exact R3.out

def Lv (x : Cx) (F : FuncId) (l k : Nat) (p : Nat) : Prop := ∀ f,20 * (x.T.length - p) + k ≤ f → Rd x F (rdE f l) p
def left? (x : Cx) (w : World) : Nat := match w.cell? ⟨x.g,0,none⟩ with | some (.slice _ m _) => m | _ => 0
theorem left_is {x : Cx} {p : Nat} {w : World} (h : TS x p w) : left? x w = x.T.length - p + 1 := by
 obtain ⟨m,d,c,e,-⟩ := h.tok
 unfold left?
 rw [c]
 show m + 1 = _
 omega
theorem chn_go {f l : Nat} {t u : T} {r r' : List Ck} (h : inT (opsL l) (hd r) = true) (hg : rdE f (l + 1) r.tail = .ok u r') : chn (f + 1) l t r = chn f l (bin (hd r).2.1 t u) r' := by rw [chn,if_pos h,hg]
theorem chn_bad {f l : Nat} {t : T} {r r' : List Ck} (h : inT (opsL l) (hd r) = true) (hg : rdE f (l + 1) r.tail = .bad r') : chn (f + 1) l t r = .bad r' := by rw [chn,if_pos h,hg]
theorem chn_end {f l : Nat} {t : T} {r : List Ck} (h : inT (opsL l) (hd r) = false) : chn (f + 1) l t r = .ok t r := by rw [chn,if_neg (by rw [h]; decide)]
theorem chain_any {x : Cx} {S : Nat → Prop} {p0 : Nat} {o : Option Addr} {n c : Nat} {L : List Nd} {F : FuncId} {l k : Nat} (hk : k ≤ 20) (hent : ∀ (args : Array Value) (w : World),(callFunc F args).run Tryz.prog w = .ok (.enter F args) w)
  (hR : ∀ p,p0 ≤ p → Lv x F (l + 1) k p) (f : Nat) (hk2 : 2 ≤ k) (hf : 20 * (x.T.length - p0) + k ≤ f)
  (oo : Option Addr) (ok oc : Nat) (hok : ok ≤ 1000) (w : World) (h : RS x S p0 o n c L w) (hA : KArg w oo ok (opsL l)) (hF : ∀ a,oo = some a → ¬ (a.block = x.g ∨ Blk o a.block)) :
  Calls Tryz.prog 270 #[.pointer (some ⟨x.g,0,none⟩),.func (.func F) #[.pointer (some ⟨x.g,0,none⟩)] #[],.slice oo ok oc] w (EPost x S p0 p0 n o L (match rdE f (l + 1) (x.at p0) with | .ok t r => chn f l t r | .bad r => .bad r) w) := by
 have H := Lib.hid h
 have HR := Lib.hid hR
 have HA := Lib.hid hA
 have HF := Lib.hid hF
 have h1 := hR p0 (Nat.le_refl _) f (by omega) S o n c L w h
 clear h hR hA hF
 cases hg : rdE f (l + 1) (x.at p0) with
 | bad r =>
  rw [hg] at h1
  have H1 := Lib.hid h1
  clear h1 hg
  go_enter Tryz.func270,Tryz.ntmps270
  go_wp2_with fail
  refine H1.out.mono ?_
  rintro e w2 ⟨rfl,H2⟩
  have H2c := Lib.hid H2
  clear H2
  go_wp2_with fail
  exact ⟨rfl,rfl,H2c.out⟩
 | ok t r =>
  rw [hg] at h1
  have H1 := Lib.hid h1
  clear h1 hg
  dsimp only
  obtain ⟨X,hX⟩ : ∃ X,chn f l t r = X := ⟨_,rfl⟩
  rw [hX]
  have HX := Lib.hid hX
  clear hX
  go_enter Tryz.func270,Tryz.ntmps270
  go_wp2_with fail
  refine H1.out.mono ?_
  rintro e w1 ⟨rfl,p1,o1,c1,r1,t1,rfl,hp1,hs1⟩
  have R1 := Lib.hid r1
  have T1 := Lib.hid t1
  clear r1 t1
  go_wp2_with fail
  go_loopw [7] (fun lv wr => ∃ (t : T) (p : Nat) (o' : Option Addr) (c' f' : Nat),lv = .int .i64 ((n : Int) + (size t : Int) - 1) ∧ Hid (RS x S p o' (n + size t) c' (L ++ flat n t) wr) ∧ Hid (RTo x.g o w o' wr) ∧ Hid (chn f' l t (x.at p) = X) ∧ 20 * (x.T.length - p) + 2 ≤ f' ∧ p0 < p ∧ size t + p0 ≤ p) (fun _ wr => left? x wr)
  case atStart => exact ⟨t,p1,o1,c1,f,rfl,R1,T1,HX,by omega,hp1,hs1⟩
  case round =>
   obtain ⟨t,p,o',c',f',rfl,HRS,HTo,HM,hf1,hpp,hss⟩ := hrel
   rename World => wr
   clear R1 T1 HX
   obtain ⟨f',rfl⟩ : ∃ g,f' = g + 1 := ⟨f' - 1,by omega⟩
   have HSs := Lib.hid (sees_any (x := x) (p := p) (opsL l) oo ok oc hok wr HRS.out.ts (HA.out.mod HTo.out.mod HF.out))
   have hpos := HRS.out.ts.pos
   rw [left_is HRS.out.ts]
   cases hb : inT (opsL l) (hd (x.at p)) with
   | false =>
    rw [hb] at HSs
    have hz : Hid (X = .ok t (x.at p)) := Lib.hid (by rw [← HM.out,chn_end hb])
    clear hb HM
    go_wp2_with fail
    refine HSs.out.mono ?_
    rintro e w3 ⟨rfl,g⟩
    have G := Lib.hid g
    clear g
    go_wp2_with fail
    go_ret
    rw [hz.out]
    exact EPost.mk rfl (HRS.out.on G.out) (HTo.out.bel G.out) hpp hss
   | true =>
    rw [hb] at HSs
    have hlt := isT_lt hb
    have Hb := Lib.hid hb
    clear hb
    have HB := Lib.hid (fun W' (g : Bel wr W') => binary_any (p0 := p0) hent W' (HRS.out.on g) hlt hss (HR.out (p + 1) (by omega) f' (by omega)))
    go_wp2_with fail
    refine HSs.out.mono ?_
    rintro e w3 ⟨rfl,g⟩
    have G := Lib.hid g
    clear g
    go_wp2_with fail
    refine (HB.out w3 G.out).mono ?_
    intro e w4 h4
    cases hg : rdE f' (l + 1) (x.at (p + 1)) with
    | bad r =>
     rw [hg] at h4
     obtain ⟨rfl,H4⟩ := Stops.from (HTo.out.bel G.out) h4
     have H4c := Lib.hid H4
     have hz : Hid (X = .bad r) := Lib.hid (by rw [← HM.out,chn_bad Hb.out (by rw [tail_at]; exact hg)])
     clear h4 H4 hg HB HSs
     go_wp2_with fail
     rw [hz.out]
     exact ⟨rfl,rfl,H4c.out⟩
    | ok u r =>
     rw [hg] at h4
     obtain ⟨rfl,p4,o4,c4,r4,t4,rfl,hp4,hs4⟩ := h4
     have R4 := Lib.hid r4
     have T4 := Lib.hid ((HTo.out.bel G.out).trans t4)
     have hM2 := Lib.hid (show chn f' l (bin (hd (x.at p)).2.1 t u) (x.at p4) = X by rw [← HM.out,chn_go Hb.out (by rw [tail_at]; exact hg)])
     have ml := Lib.hid (left_is r4.ts)
     have pp4 := r4.ts.pos
     clear r4 t4 hg HB HSs
     go_wp2_with fail
     go_round
     case rel => exact ⟨_,p4,o4,c4,f',rfl,R4,T4,hM2,by omega,by omega,hs4⟩
     case measure => rw [ml.out]; omega

def its {A : Type} (G : Nat → A → List Ck → RR A) (cl : Txt) : Nat → A → List Ck → RR A
 | 0,_,r => .bad r
 | f + 1,a,r =>
  match G f a r with
  | .bad r' => .bad r'
  | .ok a' r' => if isT [44] (hd r') then its G cl f a' r'.tail else if isT cl (hd r') then .ok a' r'.tail else .bad r'
def itl {A : Type} (G : Nat → A → List Ck → RR A) (cl : Txt) (f : Nat) (a : A) (r : List Ck) : RR A := if isT cl (hd r) then .ok a r.tail else its G cl f a r
def itn {A : Type} (G : Nat → A → List Ck → RR A) (cl : Txt) (f : Nat) (a : A) (r : List Ck) : RR A := if isT [44] (hd r) then its G cl f a r.tail else if isT cl (hd r) then .ok a r.tail else .bad r
theorem its_ok {A : Type} {G : Nat → A → List Ck → RR A} {cl : Txt} {f : Nat} {a a' : A} {r r' : List Ck} (h : G f a r = .ok a' r') : its G cl (f + 1) a r = itn G cl f a' r' := by rw [its,h]; rfl
theorem its_bad {A : Type} {G : Nat → A → List Ck → RR A} {cl : Txt} {f : Nat} {a : A} {r r' : List Ck} (h : G f a r = .bad r') : its G cl (f + 1) a r = .bad r' := by rw [its,h]
theorem itn_co {A : Type} {G : Nat → A → List Ck → RR A} {cl : Txt} {f : Nat} {a : A} {r : List Ck} (h : isT [44] (hd r) = true) : itn G cl f a r = its G cl f a r.tail := if_pos h
theorem itn_cl {A : Type} {G : Nat → A → List Ck → RR A} {cl : Txt} {f : Nat} {a : A} {r : List Ck} (h : isT [44] (hd r) = false) (h2 : isT cl (hd r) = true) : itn G cl f a r = .ok a r.tail := by rw [itn,if_neg (by rw [h]; decide),if_pos h2]
theorem itn_no {A : Type} {G : Nat → A → List Ck → RR A} {cl : Txt} {f : Nat} {a : A} {r : List Ck} (h : isT [44] (hd r) = false) (h2 : isT cl (hd r) = false) : itn G cl f a r = .bad r := by rw [itn,if_neg (by rw [h]; decide),if_neg (by rw [h2]; decide)]
def Keeps {A : Type} (x : Cx) (St : A → Nat → World → Prop) (Pn : Ending → World → List Ck → Prop) : Prop := ∀ a p w,St a p w → ∃ (S : Nat → Prop) (o : Option Addr) (n c : Nat) (L : List Nd),RS x S p o n c L w ∧ (∀ p' w',RS x S p' o n c L w' → RTo x.g o w o w' → p ≤ p' → St a p' w') ∧ ∀ e w' r,Stops x o w e w' r → Pn e w' r
def IPost {A : Type} (x : Cx) (St : A → Nat → World → Prop) (Pn : Ending → World → List Ck → Prop) (p : Nat) (X : RR A) (e : Ending) (w' : World) : Prop :=
 match X with
 | .ok a r => e = .returned (.tuple #[]) ∧ ∃ p',St a p' w' ∧ r = x.at p' ∧ p < p'
 | .bad r => Pn e w' r
theorem IPost.mk {A : Type} {x : Cx} {St : A → Nat → World → Prop} {Pn : Ending → World → List Ck → Prop} {p p' : Nat} {a : A} {w' : World} (h : St a p' w') (hp : p < p') : IPost x St Pn p (.ok a (x.at p')) (.returned (.tuple #[])) w' := ⟨rfl,p',h,rfl,hp⟩
theorem items_any {A : Type} {x : Cx} {St : A → Nat → World → Prop} {Pn : Ending → World → List Ck → Prop} {G : Nat → A → List Ck → RR A} {F : FuncId} {k : Nat} (hk : k ≤ 20) (caps : Array Value) (hent : ∀ (args : Array Value) (w : World),(callFunc F args).run Tryz.prog w = .ok (.enter F args) w)
  (hK : Keeps x St Pn) (hPn : ∀ e w r,Pn e w r → e = .panicked [{ v := errV,recovered := false }]) (p0 : Nat) (hI : ∀ f a p w,p0 ≤ p → St a p w → 20 * (x.T.length - p) + k ≤ f → Calls Tryz.prog F caps w (IPost x St Pn p (G f a (x.at p))))
  (cl : Txt) (f : Nat) (hf : 20 * (x.T.length - p0) + k + 1 ≤ f) (a : A) (w : World) (h : St a p0 w) :
  Calls Tryz.prog 123 #[.pointer (some ⟨x.g,0,none⟩),.string ⟨cl.toArray⟩,.func (.func F) #[] caps] w (IPost x St Pn p0 (itl G cl f a (x.at p0))) := by
 obtain ⟨S,o,n,c,L,hR,hS,-⟩ := hK a p0 w h
 have HK := Lib.hid hK
 have HI := Lib.hid hI
 have HPn := Lib.hid hPn
 have HS := Lib.hid hS
 have HA := Lib.hid (fun hb => accept_yes cl w hR hb)
 have HN := Lib.hid (fun hb => accept_no cl w hR hb)
 clear hK hI hPn hS hR h
 cases hb : isT cl (hd (x.at p0)) with
 | true =>
  have hz : Hid (itl G cl f a (x.at p0) = .ok a (x.at (p0 + 1))) := Lib.hid (by rw [itl,if_pos hb,tail_at])
  have HA' := Lib.hid (HA.out hb)
  clear HA HN hb
  go_enter Tryz.func123,Tryz.ntmps123
  go_wp2_with fail
  refine HA'.out.mono ?_
  rintro e w1 ⟨rfl,r1,t1⟩
  have S1 := Lib.hid (HS.out _ _ r1 t1 (by omega))
  clear r1 t1
  go_wp2_with fail
  go_end0
  rw [hz.out]
  exact IPost.mk S1.out (by omega)
 | false =>
  have HN' := Lib.hid (HN.out hb)
  obtain ⟨f,rfl⟩ : ∃ g,f = g + 1 := ⟨f - 1,by omega⟩
  obtain ⟨X,hX⟩ : ∃ X,its G cl (f + 1) a (x.at p0) = X := ⟨_,rfl⟩
  have hz : Hid (itl G cl (f + 1) a (x.at p0) = X) := Lib.hid (by rw [itl,if_neg (by rw [hb]; decide),hX])
  have HX := Lib.hid hX
  rw [hz.out]
  clear HA HN hb hX
  go_enter Tryz.func123,Tryz.ntmps123
  go_wp2_with fail
  refine HN'.out.mono ?_
  rintro e w1 ⟨rfl,r1,t1⟩
  have S1 := Lib.hid (HS.out _ _ r1 t1 (Nat.le_refl _))
  clear r1 t1
  go_wp2_with fail
  refine (HI.out f a p0 w1 (Nat.le_refl _) S1.out (by omega)).mono ?_
  intro e w2 h2
  cases hg : G f a (x.at p0) with
  | bad r =>
   rw [hg] at h2
   have h2' : Pn e w2 r := h2
   have H2 := Lib.hid h2'
   have he := HPn.out _ _ _ h2'
   subst he
   have hz2 : Hid (X = .bad r) := Lib.hid (by rw [← HX.out,its_bad hg])
   clear h2 h2' hg
   go_wp2_with fail
   rw [hz2.out]
   exact ⟨rfl,H2.out⟩
  | ok a1 r =>
   rw [hg] at h2
   obtain ⟨rfl,p1,s1,rfl,hp1⟩ := h2
   have S2 := Lib.hid s1
   have HX2 : Hid (itn G cl f a1 (x.at p1) = X) := Lib.hid (by rw [← HX.out,its_ok hg])
   clear hg s1 HX
   go_wp2_with fail
   go_loopw [] (fun wr => ∃ (a' : A) (p f' : Nat),Hid (St a' p wr) ∧ Hid (itn G cl f' a' (x.at p) = X) ∧ 20 * (x.T.length - p) + 2 ≤ f' ∧ p0 < p) (fun wr => left? x wr)
   case atStart =>
    obtain ⟨_,_,_,_,_,q,-⟩ := HK.out _ _ _ S2.out
    have := q.ts.pos
    exact ⟨a1,p1,f,S2,HX2,by omega,hp1⟩
   case round =>
    obtain ⟨a',p,f',HSt,HM,hf1,hpp⟩ := hrel
    rename World => wr
    clear S1 S2 HX2 HS HN'
    obtain ⟨S',o',n',c',L',hR,hS,hQ⟩ := HK.out _ _ _ HSt.out
    have HS := Lib.hid hS
    have HQ := Lib.hid hQ
    have HR := Lib.hid hR
    have hpos := hR.ts.pos
    rw [left_is hR.ts]
    clear hS hR hQ
    cases h44 : isT [44] (hd (x.at p)) with
    | true =>
     have HA := Lib.hid (accept_yes [44] wr HR.out h44)
     have hlt := isT_lt h44
     obtain ⟨f',rfl⟩ : ∃ g,f' = g + 1 := ⟨f' - 1,by omega⟩
     have HM2 : Hid (its G cl (f' + 1) a' (x.at (p + 1)) = X) := Lib.hid (by rw [← HM.out,itn_co h44,tail_at])
     clear h44 HM
     go_wp2_with fail
     refine HA.out.mono ?_
     rintro e w3 ⟨rfl,r3,t3⟩
     have S3 := Lib.hid (HS.out _ _ r3 t3 (by omega))
     clear r3 t3
     go_wp2_with fail
     refine (HI.out f' a' (p + 1) w3 (by omega) S3.out (by omega)).mono ?_
     intro e w4 h4
     cases hg : G f' a' (x.at (p + 1)) with
     | bad r =>
      rw [hg] at h4
      have h4' : Pn e w4 r := h4
      have H4 := Lib.hid h4'
      have he := HPn.out _ _ _ h4'
      subst he
      have hz2 : Hid (X = .bad r) := Lib.hid (by rw [← HM2.out,its_bad hg])
      clear h4 h4' hg
      go_wp2_with fail
      rw [hz2.out]
      exact ⟨rfl,H4.out⟩
     | ok a4 r =>
      rw [hg] at h4
      obtain ⟨rfl,p4,s4,rfl,hp4⟩ := h4
      have S4 := Lib.hid s4
      have HM3 : Hid (itn G cl f' a4 (x.at p4) = X) := Lib.hid (by rw [← HM2.out,its_ok hg])
      obtain ⟨_,_,_,_,_,q,-⟩ := HK.out _ _ _ s4
      have hq := q.ts.pos
      have ml := Lib.hid (left_is q.ts)
      clear hg s4 q HM2
      go_wp2_with fail
      go_round
      case rel => exact ⟨a4,p4,f',S4,HM3,by omega,by omega⟩
      case measure => rw [ml.out]; omega
    | false =>
     have HA := Lib.hid (accept_no [44] wr HR.out h44)
     have H44 := Lib.hid h44
     clear h44
     go_wp2_with fail
     refine HA.out.mono ?_
     rintro e w3 ⟨rfl,r3,t3⟩
     have S3 := Lib.hid (HS.out _ _ r3 t3 (by omega))
     have R3 := Lib.hid r3
     have T3 := Lib.hid t3
     clear r3 t3
     cases hcl : isT cl (hd (x.at p)) with
     | true =>
      have HE := Lib.hid (expect_yes cl w3 R3.out hcl)
      have hz2 : Hid (X = .ok a' (x.at (p + 1))) := Lib.hid (by rw [← HM.out,itn_cl H44.out hcl,tail_at])
      clear hcl HM
      go_wp2_with fail
      refine HE.out.mono ?_
      rintro e w4 ⟨rfl,r4,t4⟩
      have S4 := Lib.hid (HS.out _ _ r4 (T3.out.trans t4) (by omega))
      clear r4 t4
      go_wp2_with fail
      go_end0
      rw [hz2.out]
      exact IPost.mk S4.out (by omega)
     | false =>
      have HE := Lib.hid (expect_no cl w3 R3.out hcl)
      have hz2 : Hid (X = .bad (x.at p)) := Lib.hid (by rw [← HM.out,itn_no H44.out hcl])
      clear hcl HM
      go_wp2_with fail
      refine HE.out.mono ?_
      intro e w4 h4
      have h5 := HQ.out _ _ _ (Stops.from T3.out h4)
      have H5 := Lib.hid h5
      have he := HPn.out _ _ _ h5
      subst he
      clear h4 h5
      go_wp2_with fail
      rw [hz2.out]
      exact ⟨rfl,H5.out⟩

theorem rdE_c (f l : Nat) (r : List Ck) (h : l = 1 ∨ l = 2 ∨ l = 5 ∨ l = 6) : rdE (f + 1) l r = (match rdE f (l + 1) r with | .ok t r => chn f l t r | .bad r => .bad r) := by
 rcases h with rfl | rfl | rfl | rfl <;> (rw [rdE]; rfl)
theorem new_karg (w : World) (ss : List Txt) (t : TypeId) : KArg (w.alloc (.cells (ss.map fun s => Value.string ⟨s.toArray⟩).toArray t)) (some ⟨w.heap.size,0,none⟩) ss.length ss :=
 ⟨by rw [List.length_map],fun i hi => ⟨_,rfl,by
  rw [Lib.add_plain,World.cell?_alloc_new]
  rw [List.length_map] at hi
  simp [List.getElem?_eq_getElem hi,bz]⟩⟩
theorem chain_new {x : Cx} {S : Nat → Prop} {p : Nat} {o : Option Addr} {n c : Nat} {L : List Nd} {F : FuncId} {l k : Nat} (hk : k ≤ 20) (hk2 : 2 ≤ k) (hl : l = 1 ∨ l = 2 ∨ l = 5 ∨ l = 6) (hent : ∀ (args : Array Value) (w : World),(callFunc F args).run Tryz.prog w = .ok (.enter F args) w)
  (hR : ∀ p',p ≤ p' → Lv x F (l + 1) k p') (f : Nat) (hf : 20 * (x.T.length - p) + (k + 1) ≤ f) (w : World) (h : RS x S p o n c L w) (ty : TypeId) :
  Calls Tryz.prog 270 #[.pointer (some ⟨x.g,0,none⟩),.func (.func F) #[.pointer (some ⟨x.g,0,none⟩)] #[],.slice (some ⟨w.heap.size,0,none⟩) (opsL l).length (opsL l).length] (w.alloc (.cells ((opsL l).map fun s => Value.string ⟨s.toArray⟩).toArray ty)) (EPost x S p p n o L (rdE f l (x.at p)) w) := by
 obtain ⟨f,rfl⟩ : ∃ g,f = g + 1 := ⟨f - 1,by omega⟩
 have B := Bel.alloc (Bel.refl w) (.cells ((opsL l).map fun s => Value.string ⟨s.toArray⟩).toArray ty)
 have hh := h.own
 have hg := h.sl _ h.sg
 rw [rdE_c f l _ hl]
 refine (chain_any hk hent hR f hk2 (by omega) _ _ _ ?_ _ (h.on B) (new_karg w _ ty) ?_).mono fun e w' k => EPost.from (RTo.of_bel B) k
 ·rcases hl with rfl | rfl | rfl | rfl <;> decide
 ·intro a e
  cases e
  rintro (e | e)
  ·have := hg.1
   simp only at e
   omega
  ·have := (hh.blk e).2
   simp only at this
   omega
theorem ent_and : ∀ args w,(callFunc 271 args).run Tryz.prog w = .ok (.enter 271 args) w := enters_of Tryz.func271 (by kernel_rfl) rfl
theorem ent_not : ∀ args w,(callFunc 277 args).run Tryz.prog w = .ok (.enter 277 args) w := enters_of Tryz.func277 (by kernel_rfl) rfl
theorem ent_sum : ∀ args w,(callFunc 285 args).run Tryz.prog w = .ok (.enter 285 args) w := enters_of Tryz.func285 (by kernel_rfl) rfl
theorem ent_term : ∀ args w,(callFunc 290 args).run Tryz.prog w = .ok (.enter 290 args) w := enters_of Tryz.func290 (by kernel_rfl) rfl
theorem ent_unary : ∀ args w,(callFunc 292 args).run Tryz.prog w = .ok (.enter 292 args) w := enters_of Tryz.func292 (by kernel_rfl) rfl
theorem term_any {x : Cx} {p : Nat} (hR : ∀ p',p ≤ p' → Lv x 292 7 5 p') : Lv x 290 6 6 p := by
 intro f hf S o n c L w h
 have HC := Lib.hid (chain_new (S := S) (o := o) (n := n) (c := c) (L := L) (by omega) (by omega) (by omega) ent_unary hR f hf w h 9)
 have hmf : ∀ (fn : Fn) (first cap : Array Value) (w : World),(Instr.makeFunc fn first cap).run Tryz.prog w = .ok (.func fn first cap) w := fun _ _ _ _ => rfl
 generalize rdE f 6 (x.at p) = X at *
 clear h hR
 go_enter Tryz.func290,Tryz.ntmps290
 go_wp2_with fail
 refine HC.out.mono ?_
 intro e w1 h1
 cases X with
 | bad r =>
  obtain ⟨rfl,H2⟩ := h1
  have H2c := Lib.hid H2
  clear H2
  go_wp2_with fail
  exact ⟨rfl,rfl,H2c.out⟩
 | ok t r =>
  obtain ⟨rfl,H2⟩ := h1
  have H2c := Lib.hid H2
  clear H2
  go_wp2_with fail
  go_ret
  exact ⟨rfl,H2c.out⟩
theorem sum_any {x : Cx} {p : Nat} (hR : ∀ p',p ≤ p' → Lv x 290 6 6 p') : Lv x 285 5 7 p := by
 intro f hf S o n c L w h
 have HC := Lib.hid (chain_new (S := S) (o := o) (n := n) (c := c) (L := L) (by omega) (by omega) (by omega) ent_term hR f hf w h 9)
 have hmf : ∀ (fn : Fn) (first cap : Array Value) (w : World),(Instr.makeFunc fn first cap).run Tryz.prog w = .ok (.func fn first cap) w := fun _ _ _ _ => rfl
 generalize rdE f 5 (x.at p) = X at *
 clear h hR
 go_enter Tryz.func285,Tryz.ntmps285
 go_wp2_with fail
 refine HC.out.mono ?_
 intro e w1 h1
 cases X with
 | bad r =>
  obtain ⟨rfl,H2⟩ := h1
  have H2c := Lib.hid H2
  clear H2
  go_wp2_with fail
  exact ⟨rfl,rfl,H2c.out⟩
 | ok t r =>
  obtain ⟨rfl,H2⟩ := h1
  have H2c := Lib.hid H2
  clear H2
  go_wp2_with fail
  go_ret
  exact ⟨rfl,H2c.out⟩
theorem and_any {x : Cx} {p : Nat} (hR : ∀ p',p ≤ p' → Lv x 277 3 9 p') : Lv x 271 2 10 p := by
 intro f hf S o n c L w h
 have HC := Lib.hid (chain_new (S := S) (o := o) (n := n) (c := c) (L := L) (by omega) (by omega) (by omega) ent_not hR f hf w h 9)
 have hmf : ∀ (fn : Fn) (first cap : Array Value) (w : World),(Instr.makeFunc fn first cap).run Tryz.prog w = .ok (.func fn first cap) w := fun _ _ _ _ => rfl
 generalize rdE f 2 (x.at p) = X at *
 clear h hR
 go_enter Tryz.func271,Tryz.ntmps271
 go_wp2_with fail
 refine HC.out.mono ?_
 intro e w1 h1
 cases X with
 | bad r =>
  obtain ⟨rfl,H2⟩ := h1
  have H2c := Lib.hid H2
  clear H2
  go_wp2_with fail
  exact ⟨rfl,rfl,H2c.out⟩
 | ok t r =>
  obtain ⟨rfl,H2⟩ := h1
  have H2c := Lib.hid H2
  clear H2
  go_wp2_with fail
  go_ret
  exact ⟨rfl,H2c.out⟩
theorem expr_any {x : Cx} {p : Nat} (hR : ∀ p',p ≤ p' → Lv x 271 2 10 p') : Lv x 261 1 11 p := by
 intro f hf S o n c L w h
 have HC := Lib.hid (chain_new (S := S) (o := o) (n := n) (c := c) (L := L) (by omega) (by omega) (by omega) ent_and hR f hf w h 9)
 have hmf : ∀ (fn : Fn) (first cap : Array Value) (w : World),(Instr.makeFunc fn first cap).run Tryz.prog w = .ok (.func fn first cap) w := fun _ _ _ _ => rfl
 generalize rdE f 1 (x.at p) = X at *
 clear h hR
 go_enter Tryz.func261,Tryz.ntmps261
 go_wp2_with fail
 refine HC.out.mono ?_
 intro e w1 h1
 cases X with
 | bad r =>
  obtain ⟨rfl,H2⟩ := h1
  have H2c := Lib.hid H2
  clear H2
  go_wp2_with fail
  exact ⟨rfl,rfl,H2c.out⟩
 | ok t r =>
  obtain ⟨rfl,H2⟩ := h1
  have H2c := Lib.hid H2
  clear H2
  go_wp2_with fail
  go_ret
  exact ⟨rfl,H2c.out⟩

theorem flat_una (n : Nat) (s : Txt) (t : T) : flat n (una s t) = flat n t ++ [⟨8,s,0,[],[(n : Int) + (size t : Int) - 1]⟩] := by
 have h1 := size_pos t
 unfold una
 rw [flat,flats,flats,roots,roots,List.append_nil]
 congr 4
 omega
theorem size_una (s : Txt) (t : T) : size (una s t) = size t + 1 := by unfold una; rw [size,sizes,sizes] <;> omega
theorem flat_idx (n : Nat) (t u : T) : flat n (idx t u) = flat n t ++ flat (n + size t) u ++ [⟨10,[],0,[],[(n : Int) + (size t : Int) - 1,(n : Int) + (size t : Int) + (size u : Int) - 1]⟩] := by
 have h1 := size_pos t
 have h2 := size_pos u
 unfold idx
 rw [flat,flats,flats,flats,roots,roots,roots,List.append_nil]
 congr 5
 ·omega
 ·congr 1; omega
theorem size_idx (t u : T) : size (idx t u) = size t + size u + 1 := by unfold idx; rw [size,sizes,sizes,sizes] <;> omega
theorem hmf_any : ∀ (fn : Fn) (first cap : Array Value) (w : World),(Instr.makeFunc fn first cap).run Tryz.prog w = .ok (.func fn first cap) w := fun _ _ _ _ => rfl
def cmpR (f : Nat) (t : T) (r : List Ck) : RR T :=
 if inT (opsL 4) (hd r) then
  match rdE f 5 r.tail with
  | .ok u r2 => .ok (bin (hd r).2.1 t u) r2
  | .bad r2 => .bad r2
 else .ok t r
theorem rdE_4 (f : Nat) (r : List Ck) : rdE (f + 1) 4 r = (match rdE f 5 r with | .ok t r' => cmpR f t r' | .bad r' => .bad r') := by rw [rdE]; rfl
theorem cmpR_end {f : Nat} {t : T} {r : List Ck} (h : inT (opsL 4) (hd r) = false) : cmpR f t r = .ok t r := by rw [cmpR,if_neg (by rw [h]; decide)]
theorem cmpR_bad {f : Nat} {t : T} {r r' : List Ck} (h : inT (opsL 4) (hd r) = true) (hg : rdE f 5 r.tail = .bad r') : cmpR f t r = .bad r' := by rw [cmpR,if_pos h,hg]
theorem cmpR_go {f : Nat} {t u : T} {r r' : List Ck} (h : inT (opsL 4) (hd r) = true) (hg : rdE f 5 r.tail = .ok u r') : cmpR f t r = .ok (bin (hd r).2.1 t u) r' := by rw [cmpR,if_pos h,hg]
theorem rdE_8 (f : Nat) (r : List Ck) : rdE (f + 1) 8 r = (match rdE f 9 r with | .ok t r' => pst f t r' | .bad r' => .bad r') := by rw [rdE]; rfl
theorem rdE_3y (f : Nat) (r : List Ck) (h : isT [110,111,116] (hd r) = true) : rdE (f + 1) 3 r = (match rdE f 3 r.tail with | .ok t r' => .ok (una [110,111,116] t) r' | .bad r' => .bad r') := by rw [rdE,if_pos rfl,if_pos h]; rfl
theorem rdE_3n (f : Nat) (r : List Ck) (h : isT [110,111,116] (hd r) = false) : rdE (f + 1) 3 r = rdE f 4 r := by rw [rdE,if_pos rfl,if_neg (by rw [h]; decide)]
theorem not_any {x : Cx} {p : Nat} (hN : ∀ p',p < p' → Lv x 277 3 9 p') (hC : Lv x 280 4 8 p) : Lv x 277 3 9 p := by
 intro f hf S o n c L w h
 obtain ⟨f,rfl⟩ : ∃ g,f = g + 1 := ⟨f - 1,by omega⟩
 cases hb : isT [110,111,116] (hd (x.at p)) with
 | false =>
  have HA := Lib.hid (accept_no [110,111,116] w h hb)
  have HC := Lib.hid (fun w1 r1 => hC f (by omega) S o n c L w1 r1)
  rw [rdE_3n _ _ hb]
  generalize rdE f 4 (x.at p) = X at *
  clear h hb hN hC
  go_enter Tryz.func277,Tryz.ntmps277
  go_wp2_with fail
  refine HA.out.mono ?_
  rintro e w1 ⟨rfl,r1,t1⟩
  have R1 := Lib.hid r1
  have T1 := Lib.hid t1
  clear r1 t1
  go_wp2_with fail
  refine (HC.out w1 R1.out).mono ?_
  intro e w2 h2
  have h3 := EPost.from T1.out h2
  clear h2
  cases X with
  | bad r =>
   obtain ⟨rfl,H2⟩ := h3
   have H2c := Lib.hid H2
   clear H2
   go_wp2_with fail
   exact ⟨rfl,rfl,H2c.out⟩
  | ok t r =>
   obtain ⟨rfl,H2⟩ := h3
   have H2c := Lib.hid H2
   clear H2
   go_wp2_with fail
   go_ret
   exact ⟨rfl,H2c.out⟩
 | true =>
  have hp := isT_lt hb
  have HA := Lib.hid (accept_yes [110,111,116] w h hb)
  have HC := Lib.hid (fun w1 r1 => hN (p + 1) (by omega) f (by omega) S o n c L w1 r1)
  have Hnp := Lib.hid h.np
  rw [rdE_3y _ _ hb,tail_at]
  obtain ⟨X,hX⟩ : ∃ X,rdE f 3 (x.at (p + 1)) = X := ⟨_,rfl⟩
  rw [hX] at HC ⊢
  clear h hb hN hC hX
  go_enter Tryz.func277,Tryz.ntmps277
  go_wp2_with fail
  refine HA.out.mono ?_
  rintro e w1 ⟨rfl,r1,t1⟩
  have R1 := Lib.hid r1
  have T1 := Lib.hid t1
  clear r1 t1
  go_wp2_with fail
  refine (HC.out w1 R1.out).mono ?_
  intro e w2 h2
  have h3 := EPost.from T1.out h2
  clear h2
  cases X with
  | bad r =>
   obtain ⟨rfl,H2⟩ := h3
   have H2c := Lib.hid H2
   clear H2
   go_wp2_with fail
   exact ⟨rfl,rfl,H2c.out⟩
  | ok t r =>
   obtain ⟨rfl,p2,o2,c2,r2,t2,rfl,hp2,hs2⟩ := h3
   have R2 := Lib.hid r2
   have T2 := Lib.hid t2
   clear r2 t2
   have HD := Lib.hid (add_kids 8 [110,111,116] 0 [(n : Int) + (size t : Int) - 1] 3 w2 R2.out (by have := Hnp.out; omega))
   go_wp2_with fail
   refine HD.out.mono ?_
   rintro e w3 ⟨rfl,o3,c3,r3,t3⟩
   have R3 := Lib.hid r3
   have T3 := Lib.hid (T2.out.trans t3)
   clear r3 t3
   go_wp2_with fail
   go_ret
   refine EPost.mk (p := p) (q := p) (p' := p2) (t := una [110,111,116] t) (o' := o3) (c' := c3) (by rw [size_una] <;> omega) ?_ T3.out (by omega) (by rw [size_una]; omega)
   rw [flat_una,size_una,← List.append_assoc,show n + (size t + 1) = n + size t + 1 by omega]
   exact R3.out
theorem rdE_7y (f : Nat) (r : List Ck) (h : isT [45] (hd r) = true) : rdE (f + 1) 7 r = (match rdE f 7 r.tail with | .ok t r' => .ok (una [45] t) r' | .bad r' => .bad r') := by rw [rdE,if_neg (by decide),if_neg (by decide),if_pos rfl,if_pos h]; rfl
theorem rdE_7n (f : Nat) (r : List Ck) (h : isT [45] (hd r) = false) : rdE (f + 1) 7 r = rdE f 8 r := by rw [rdE,if_neg (by decide),if_neg (by decide),if_pos rfl,if_neg (by rw [h]; decide)]
theorem unary_any {x : Cx} {p : Nat} (hN : ∀ p',p < p' → Lv x 292 7 5 p') (hC : Lv x 294 8 4 p) : Lv x 292 7 5 p := by
 intro f hf S o n c L w h
 obtain ⟨f,rfl⟩ : ∃ g,f = g + 1 := ⟨f - 1,by omega⟩
 cases hb : isT [45] (hd (x.at p)) with
 | false =>
  have HA := Lib.hid (accept_no [45] w h hb)
  have HC := Lib.hid (fun w1 r1 => hC f (by omega) S o n c L w1 r1)
  rw [rdE_7n _ _ hb]
  generalize rdE f 8 (x.at p) = X at *
  clear h hb hN hC
  go_enter Tryz.func292,Tryz.ntmps292
  go_wp2_with fail
  refine HA.out.mono ?_
  rintro e w1 ⟨rfl,r1,t1⟩
  have R1 := Lib.hid r1
  have T1 := Lib.hid t1
  clear r1 t1
  go_wp2_with fail
  refine (HC.out w1 R1.out).mono ?_
  intro e w2 h2
  have h3 := EPost.from T1.out h2
  clear h2
  cases X with
  | bad r =>
   obtain ⟨rfl,H2⟩ := h3
   have H2c := Lib.hid H2
   clear H2
   go_wp2_with fail
   exact ⟨rfl,rfl,H2c.out⟩
  | ok t r =>
   obtain ⟨rfl,H2⟩ := h3
   have H2c := Lib.hid H2
   clear H2
   go_wp2_with fail
   go_ret
   exact ⟨rfl,H2c.out⟩
 | true =>
  have hp := isT_lt hb
  have HA := Lib.hid (accept_yes [45] w h hb)
  have HC := Lib.hid (fun w1 r1 => hN (p + 1) (by omega) f (by omega) S o n c L w1 r1)
  have Hnp := Lib.hid h.np
  rw [rdE_7y _ _ hb,tail_at]
  obtain ⟨X,hX⟩ : ∃ X,rdE f 7 (x.at (p + 1)) = X := ⟨_,rfl⟩
  rw [hX] at HC ⊢
  clear h hb hN hC hX
  go_enter Tryz.func292,Tryz.ntmps292
  go_wp2_with fail
  refine HA.out.mono ?_
  rintro e w1 ⟨rfl,r1,t1⟩
  have R1 := Lib.hid r1
  have T1 := Lib.hid t1
  clear r1 t1
  go_wp2_with fail
  refine (HC.out w1 R1.out).mono ?_
  intro e w2 h2
  have h3 := EPost.from T1.out h2
  clear h2
  cases X with
  | bad r =>
   obtain ⟨rfl,H2⟩ := h3
   have H2c := Lib.hid H2
   clear H2
   go_wp2_with fail
   exact ⟨rfl,rfl,H2c.out⟩
  | ok t r =>
   obtain ⟨rfl,p2,o2,c2,r2,t2,rfl,hp2,hs2⟩ := h3
   have R2 := Lib.hid r2
   have T2 := Lib.hid t2
   clear r2 t2
   have HD := Lib.hid (add_kids 8 [45] 0 [(n : Int) + (size t : Int) - 1] 3 w2 R2.out (by have := Hnp.out; omega))
   go_wp2_with fail
   refine HD.out.mono ?_
   rintro e w3 ⟨rfl,o3,c3,r3,t3⟩
   have R3 := Lib.hid r3
   have T3 := Lib.hid (T2.out.trans t3)
   clear r3 t3
   go_wp2_with fail
   go_ret
   refine EPost.mk (p := p) (q := p) (p' := p2) (t := una [45] t) (o' := o3) (c' := c3) (by rw [size_una] <;> omega) ?_ T3.out (by omega) (by rw [size_una]; omega)
   rw [flat_una,size_una,← List.append_assoc,show n + (size t + 1) = n + size t + 1 by omega]
   exact R3.out
theorem cmp_any {x : Cx} {p : Nat} (hR : ∀ p',p ≤ p' → Lv x 285 5 7 p') : Lv x 280 4 8 p := by
 intro f hf S o n c L w h
 obtain ⟨f,rfl⟩ : ∃ g,f = g + 1 := ⟨f - 1,by omega⟩
 have h1 := hR p (Nat.le_refl _) f (by omega) S o n c L w h
 have HR := Lib.hid hR
 have hmf := hmf_any
 rw [rdE_4]
 clear h hR
 cases hg : rdE f 5 (x.at p) with
 | bad r =>
  rw [hg] at h1
  have H1 := Lib.hid h1
  clear h1 hg
  go_enter Tryz.func280,Tryz.ntmps280
  go_wp2_with fail
  refine H1.out.mono ?_
  rintro e w2 ⟨rfl,H2⟩
  have H2c := Lib.hid H2
  clear H2
  go_wp2_with fail
  exact ⟨rfl,rfl,H2c.out⟩
 | ok t r =>
  rw [hg] at h1
  have H1 := Lib.hid h1
  clear h1 hg
  dsimp only
  obtain ⟨X,hX⟩ : ∃ X,cmpR f t r = X := ⟨_,rfl⟩
  rw [hX]
  have HX := Lib.hid hX
  clear hX
  go_enter Tryz.func280,Tryz.ntmps280
  go_wp2_with fail
  refine H1.out.mono ?_
  rintro e w1 ⟨rfl,p1,o1,c1,r1,t1,rfl,hp1,hs1⟩
  have R1 := Lib.hid r1
  have T1 := Lib.hid t1
  have B := Bel.alloc (Bel.refl w1) (.cells ((opsL 4).map fun s => Value.string ⟨s.toArray⟩).toArray 9)
  have HSs := Lib.hid (sees_any (x := x) (p := p1) (opsL 4) _ (opsL 4).length (opsL 4).length (by decide) _ (r1.on B).ts (new_karg w1 (opsL 4) 9))
  have HB := Lib.hid B
  clear r1 t1 B
  cases hb : inT (opsL 4) (hd (x.at p1)) with
  | false =>
   rw [hb] at HSs
   have hz : Hid (X = .ok t (x.at p1)) := Lib.hid (by rw [← HX.out,cmpR_end hb])
   clear hb
   go_wp2_with fail
   refine HSs.out.mono ?_
   rintro e w3 ⟨rfl,g⟩
   have G := Lib.hid (HB.out.trans g)
   clear g
   go_wp2_with fail
   go_ret
   rw [hz.out]
   exact EPost.mk rfl (R1.out.on G.out) (T1.out.bel G.out) hp1 hs1
  | true =>
   rw [hb] at HSs
   have hlt := isT_lt hb
   have Hb := Lib.hid hb
   clear hb
   have HBi := Lib.hid (fun W' (g : Bel w1 W') => binary_any (p0 := p) ent_sum W' (R1.out.on g) hlt hs1 (HR.out (p1 + 1) (by omega) f (by omega)))
   go_wp2_with fail
   refine HSs.out.mono ?_
   rintro e w3 ⟨rfl,g⟩
   have G := Lib.hid (HB.out.trans g)
   clear g
   go_wp2_with fail
   refine (HBi.out w3 G.out).mono ?_
   intro e w4 h4
   have h5 := EPost.from (T1.out.bel G.out) h4
   clear h4 HBi HSs
   cases hg : rdE f 5 (x.at (p1 + 1)) with
   | bad r =>
    rw [hg] at h5
    obtain ⟨rfl,H4⟩ := h5
    have H4c := Lib.hid H4
    have hz : Hid (X = .bad r) := Lib.hid (by rw [← HX.out,cmpR_bad Hb.out (by rw [tail_at]; exact hg)])
    clear H4 hg
    go_wp2_with fail
    rw [hz.out]
    exact ⟨rfl,rfl,H4c.out⟩
   | ok u r =>
    rw [hg] at h5
    obtain ⟨rfl,p4,o4,c4,r4,t4,rfl,hp4,hs4⟩ := h5
    have R4 := Lib.hid r4
    have T4 := Lib.hid t4
    have hz : Hid (X = .ok (bin (hd (x.at p1)).2.1 t u) (x.at p4)) := Lib.hid (by rw [← HX.out,cmpR_go Hb.out (by rw [tail_at]; exact hg)])
    clear r4 t4 hg
    go_wp2_with fail
    go_ret
    rw [hz.out]
    exact EPost.mk rfl R4.out T4.out (by omega) hs4
theorem pst_end {f : Nat} {t : T} {r : List Ck} (h : isT [91] (hd r) = false) : pst (f + 1) t r = .ok t r := by rw [pst,if_neg (by rw [h]; decide)]
theorem pst_bad {f : Nat} {t : T} {r r' : List Ck} (h : isT [91] (hd r) = true) (hg : rdE f 1 r.tail = .bad r') : pst (f + 1) t r = .bad r' := by rw [pst,if_pos h,hg]
theorem pst_no {f : Nat} {t u : T} {r r' : List Ck} (h : isT [91] (hd r) = true) (hg : rdE f 1 r.tail = .ok u r') (h2 : isT [93] (hd r') = false) : pst (f + 1) t r = .bad r' := by rw [pst,if_pos h,hg]; exact if_neg (by rw [h2]; decide)
theorem pst_go {f : Nat} {t u : T} {r r' : List Ck} (h : isT [91] (hd r) = true) (hg : rdE f 1 r.tail = .ok u r') (h2 : isT [93] (hd r') = true) : pst (f + 1) t r = pst f (idx t u) r'.tail := by rw [pst,if_pos h,hg]; exact if_pos h2
theorem post_any {x : Cx} {p0 : Nat} (hP : Lv x 299 9 3 p0) (hE : ∀ p',p0 < p' → Lv x 261 1 11 p') : Lv x 294 8 4 p0 := by
 intro f hf S o n c L w h
 obtain ⟨f,rfl⟩ : ∃ g,f = g + 1 := ⟨f - 1,by omega⟩
 have h1 := hP f (by omega) S o n c L w h
 have HE := Lib.hid hE
 rw [rdE_8]
 clear h hP hE
 cases hg : rdE f 9 (x.at p0) with
 | bad r =>
  rw [hg] at h1
  have H1 := Lib.hid h1
  clear h1 hg
  go_enter Tryz.func294,Tryz.ntmps294
  go_wp2_with fail
  refine H1.out.mono ?_
  rintro e w2 ⟨rfl,H2⟩
  have H2c := Lib.hid H2
  clear H2
  go_wp2_with fail
  exact ⟨rfl,rfl,H2c.out⟩
 | ok t r =>
  rw [hg] at h1
  have H1 := Lib.hid h1
  clear h1 hg
  dsimp only
  obtain ⟨X,hX⟩ : ∃ X,pst f t r = X := ⟨_,rfl⟩
  rw [hX]
  have HX := Lib.hid hX
  clear hX
  go_enter Tryz.func294,Tryz.ntmps294
  go_wp2_with fail
  refine H1.out.mono ?_
  rintro e w1 ⟨rfl,p1,o1,c1,r1,t1,rfl,hp1,hs1⟩
  have R1 := Lib.hid r1
  have T1 := Lib.hid t1
  have q1 := r1.ts.pos
  clear r1 t1
  go_wp2_with fail
  go_loopw [3] (fun lv wr => ∃ (t : T) (p : Nat) (o' : Option Addr) (c' f' : Nat),lv = .int .i64 ((n : Int) + (size t : Int) - 1) ∧ Hid (RS x S p o' (n + size t) c' (L ++ flat n t) wr) ∧ Hid (RTo x.g o w o' wr) ∧ Hid (pst f' t (x.at p) = X) ∧ 20 * (x.T.length - p) + 2 ≤ f' ∧ p0 < p ∧ size t + p0 ≤ p) (fun _ wr => left? x wr)
  case atStart => exact ⟨t,p1,o1,c1,f,rfl,R1,T1,HX,by omega,hp1,hs1⟩
  case round =>
   obtain ⟨t,p,o',c',f',rfl,HRS,HTo,HM,hf1,hpp,hss⟩ := hrel
   rename World => wr
   clear R1 T1 HX
   obtain ⟨f',rfl⟩ : ∃ g,f' = g + 1 := ⟨f' - 1,by omega⟩
   have hpos := HRS.out.ts.pos
   rw [left_is HRS.out.ts]
   cases hb : isT [91] (hd (x.at p)) with
   | false =>
    have HA := Lib.hid (accept_no [91] wr HRS.out hb)
    have hz : Hid (X = .ok t (x.at p)) := Lib.hid (by rw [← HM.out,pst_end hb])
    clear hb HM
    go_wp2_with fail
    refine HA.out.mono ?_
    rintro e w3 ⟨rfl,r3,t3⟩
    have R3 := Lib.hid r3
    have T3 := Lib.hid (HTo.out.trans t3)
    clear r3 t3
    go_wp2_with fail
    go_ret
    rw [hz.out]
    exact EPost.mk rfl R3.out T3.out hpp hss
   | true =>
    have HA := Lib.hid (accept_yes [91] wr HRS.out hb)
    have hlt := isT_lt hb
    have Hb := Lib.hid hb
    clear hb
    go_wp2_with fail
    refine HA.out.mono ?_
    rintro e w3 ⟨rfl,r3,t3⟩
    have R3 := Lib.hid r3
    have T3 := Lib.hid (HTo.out.trans t3)
    have Hnp := Lib.hid HRS.out.np
    clear r3 t3
    go_wp2_with fail
    refine (HE.out (p + 1) (by omega) f' (by omega) S _ _ _ _ w3 R3.out).mono ?_
    intro e w4 h4
    have h5 := EPost.from T3.out h4
    clear h4
    cases hg : rdE f' 1 (x.at (p + 1)) with
    | bad r =>
     rw [hg] at h5
     obtain ⟨rfl,H4⟩ := h5
     have H4c := Lib.hid H4
     have hz : Hid (X = .bad r) := Lib.hid (by rw [← HM.out,pst_bad Hb.out (by rw [tail_at]; exact hg)])
     clear H4 hg
     go_wp2_with fail
     rw [hz.out]
     exact ⟨rfl,rfl,H4c.out⟩
    | ok u r =>
     rw [hg] at h5
     obtain ⟨rfl,p4,o4,c4,r4,t4,rfl,hp4,hs4⟩ := h5
     have R4 := Lib.hid r4
     have T4 := Lib.hid t4
     have pp4 := r4.ts.pos
     have Hg := Lib.hid hg
     clear r4 t4 hg
     cases h93 : isT [93] (hd (x.at p4)) with
     | false =>
      have HX := Lib.hid (expect_no [93] w4 R4.out h93)
      have hz : Hid (X = .bad (x.at p4)) := Lib.hid (by rw [← HM.out,pst_no Hb.out (by rw [tail_at]; exact Hg.out) h93])
      clear h93
      go_wp2_with fail
      refine HX.out.mono ?_
      intro e w5 h5
      obtain ⟨rfl,H5⟩ := Stops.from T4.out h5
      have H5c := Lib.hid H5
      clear h5 H5
      go_wp2_with fail
      rw [hz.out]
      exact ⟨rfl,rfl,H5c.out⟩
     | true =>
      have HX := Lib.hid (expect_yes [93] w4 R4.out h93)
      have hM2 := Lib.hid (show pst f' (idx t u) (x.at (p4 + 1)) = X by rw [← HM.out,pst_go Hb.out (by rw [tail_at]; exact Hg.out) h93,tail_at])
      have hlt4 := isT_lt h93
      clear h93
      go_wp2_with fail
      refine HX.out.mono ?_
      rintro e w5 ⟨rfl,r5,t5⟩
      have R5 := Lib.hid r5
      have T5 := Lib.hid (T4.out.trans t5)
      clear r5 t5
      have HD := Lib.hid (add_kids 10 [] 0 [(n : Int) + (size t : Int) - 1,(n : Int) + (size t : Int) + (size u : Int) - 1] 3 w5 R5.out (by have := Hnp.out; omega))
      go_wp2_with fail
      refine HD.out.mono ?_
      rintro e w6 ⟨rfl,o6,c6,r6,t6⟩
      have T6 := Lib.hid (T5.out.trans t6)
      have e6 : L ++ flat n t ++ flat (n + size t) u ++ [⟨10,[],0,[],[(n : Int) + (size t : Int) - 1,(n : Int) + (size t : Int) + (size u : Int) - 1]⟩] = L ++ flat n (idx t u) := by rw [flat_idx,← List.append_assoc,← List.append_assoc]
      have e7 : n + size t + size u + 1 = n + size (idx t u) := by rw [size_idx]; omega
      rw [e6,e7] at r6
      have R6 := Lib.hid r6
      have ml := Lib.hid (left_is r6.ts)
      have hsz := size_idx t u
      clear r6 t6 HD HX e6 e7
      go_wp2_with fail
      go_round
      case rel => exact ⟨idx t u,p4 + 1,o6,c6,f',by rw [hsz]; congr 1; omega,R6,T6,hM2,by omega,by omega,by omega⟩
      case measure => rw [ml.out]; omega
end Syn
end Go.Proofs.YtcapkeaedpabjaaGreatDoor
