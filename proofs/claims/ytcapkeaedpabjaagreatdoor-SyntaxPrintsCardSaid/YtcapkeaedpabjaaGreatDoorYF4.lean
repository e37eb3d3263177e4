/-
  Layer 8, texts merged: SzC, SzD, SzE, SzF. For every argument within the bounds that each theorem names.
-/
import Derived.Test.YtcapkeaedpabjaaGreatDoorYF3
set_option maxRecDepth 100000
set_option maxHeartbeats 16000000

/-
 Layer 8: pairs, nameOrCall and prim, as the program has them. Written by tools/genSzC.py.
-/
namespace Go.Proofs.YtcapkeaedpabjaaGreatDoor
open Go.RowKit Go.ChangeShapes Go.WideShapes
namespace Syn

theorem its_rdQ : ∀ (f : Nat) (q : List Txt × Ts) (r : List Ck),its gP [125] f q r = rdQ f q.1 q.2 r
 | 0,q,r => by rw [its,rdQ]
 | f + 1,q,r => by
  rw [its,rdQ,gP]
  by_cases h1 : keyB q.1 (hd r) = true
  ·rw [if_pos h1,if_pos h1]
   by_cases h2 : isT [58] (hd r.tail) = true
   ·rw [if_pos h2,if_pos h2]
    cases rdE f 1 r.tail.tail with
    | bad r' => rfl
    | ok t r' =>
     show (if isT [44] (hd r') = true then its gP [125] f (q.1 ++ [(hd r).2.1],snoc q.2 t) r'.tail else _) = _
     rw [its_rdQ f]
   ·rw [if_neg h2,if_neg h2]
  ·rw [if_neg h1,if_neg h1]
def mapR : RR (List Txt × Ts) → RR T
 | .ok x r => .ok (.node 7 [] 0 x.1 x.2) r
 | .bad r => .bad r
theorem ent_pair : ∀ args w,(callFunc 304 args).run Tryz.prog w = .ok (.enter 304 args) w := enters_of Tryz.func304 (by kernel_rfl) rfl
theorem pairs_any {x : Cx} {S : Nat → Prop} {p q : Nat} {o : Option Addr} {n c : Nat} {L : List Nd} (w : World) (h : RS x S p o n c L w) (hn : n + 1 ≤ p) (hq : q + 1 ≤ p) (hE : ∀ p',p ≤ p' → Lv x 261 1 11 p') (f : Nat) (hf : 20 * (x.T.length - p) + 12 ≤ f) :
  Calls Tryz.prog 302 #[.pointer (some ⟨x.g,0,none⟩)] w (EPost x S p q n o L (mapR (itl gP [125] f ([],.nil) (x.at p))) w) := by
 have hmf := hmf_any
 obtain ⟨W,hW⟩ : ∃ W,(w.alloc (.cells #[.pointer (some ⟨x.g,0,none⟩)] 97)).alloc (.cells #[.int .i64 7,.string ⟨#[]⟩,.int .i64 0,.slice none 0 0,.slice none 0 0] 65) = W := ⟨_,rfl⟩
 have B : Bel w W := by rw [← hW]; exact Bel.alloc (Bel.alloc (Bel.refl w) _) _
 have hb5 : NBox W (w.heap.size + 1) 7 [] 0 (.slice none 0 0) (.slice none 0 0) := by
  have e : (w.alloc (.cells #[.pointer (some ⟨x.g,0,none⟩)] 97)).heap.size = w.heap.size + 1 := by show (w.heap.push _).size = _; simp
  rw [← hW,← e]
  obtain ⟨y0,y1,y2,y3,y4⟩ := box5 (w.alloc (.cells #[.pointer (some ⟨x.g,0,none⟩)] 97)) (.int .i64 7) (.string ⟨#[]⟩) (.int .i64 0) (.slice none 0 0) (.slice none 0 0) 65
  exact ⟨y0,y1,y2,y3,y4,fun j => World.frozen?_alloc_new _ _ _ _⟩
 have hpt : W.cell? ⟨w.heap.size,0,none⟩ = some (.pointer (some ⟨x.g,0,none⟩)) := by
  rw [← hW]
  refine (Bel.alloc (Bel.refl _) _).cell ?_
  rw [World.cell?_alloc_new]
  rfl
 obtain ⟨ok,g0⟩ := gs_new h 7 [] 0 w.heap.size (w.heap.size + 1) (Nat.le_refl _) (by omega) (by omega) W B hb5 hpt
 have HI := Lib.hid (fun (W' : World) (hg : PSt x ⟨true,S,p,n,o,L,w,w.heap.size + 1,w.heap.size,W.heap.size,7,[],0⟩ ([],.nil) p W') => items_any (k := 11) (by decide) #[.pointer (some ⟨w.heap.size + 1,0,none⟩),.pointer (some ⟨w.heap.size,0,none⟩)] ent_pair (pst_keeps x _ ok) (fun e w r hs => hs.1) p (fun f a p' w' hp hst hf => pair_any rfl ok f a p' w' hst (fun p'' h'' => hE p'' (Nat.le_trans hp h'')) hf) [125] f (by omega) ([],.nil) W' hg)
 generalize itl gP [125] f ([],.nil) (x.at p) = X at *
 have G0 := Lib.hid g0
 have OK := Lib.hid ok
 have Hw := Lib.hid hW
 have k1 := hb5.k
 have k2 := hb5.s
 have k3 := hb5.i
 have k4 := hb5.ks
 have k5 := hb5.js
 clear h hE B hb5 ok g0 hW
 go_enter Tryz.func302,Tryz.ntmps302
 go_wp2_with fail
 rw [Hw.out]
 refine (HI.out W ⟨⟨_,_,_,_,_,_,G0.out⟩,Nat.zero_le _⟩).mono ?_
 intro e w2 h2
 clear HI
 cases X with
 | bad r =>
  obtain ⟨rfl,H2⟩ := h2
  have H2c := Lib.hid H2
  clear H2
  go_wp2_with fail
  exact ⟨rfl,rfl,H2c.out⟩
 | ok ts r =>
  obtain ⟨ks,a⟩ := ts
  obtain ⟨rfl,p',⟨⟨o',c',qo,qc,ko,kc,g2⟩,_⟩,rfl,hp'⟩ := h2
  dsimp only at g2
  have HF := Lib.hid (fin_any w2 g2 OK.out hn)
  have e1 := g2.box.k
  have e2 := g2.box.s
  have e3 := g2.box.i
  have e4 := g2.box.ks
  have e5 := g2.box.js
  have e6 := g2.ptr rfl
  have hsz := g2.sz
  dsimp only at e1 e2 e3 e4 e5 e6 hsz HF
  clear g2 k1 k2 k3 k4 k5 hpt G0 Hw OK
  go_wp2_with fail
  refine HF.out.mono ?_
  rintro e w3 ⟨rfl,o3,c3,r3,t3⟩
  have R3 := Lib.hid r3
  have T3 := Lib.hid t3
  clear r3 t3
  go_wp2_with fail
  go_ret
  exact EPost.mk (p := p) (q := q) (p' := p') (t := .node 7 [] 0 ks a) (o' := o3) (c' := c3) (by rw [size] <;> omega) R3.out T3.out hp' (by rw [size]; omega)
theorem size_leaf (k : Int) (s : Txt) (i : Int) : size (leaf k s i) = 1 := rfl
def callR (f : Nat) (r : List Ck) : RR T := if isT [40] (hd r.tail) then grpR 11 (hd r).2.1 (rdL f [41] r.tail.tail) else .ok (leaf 5 (hd r).2.1 0) r.tail
theorem called_any {x : Cx} {S : Nat → Prop} {p : Nat} {o : Option Addr} {n c : Nat} {L : List Nd} (w : World) (h : RS x S p o n c L w) (hk : (hd (x.at p)).1 = 1) (hE : ∀ p',p < p' → Lv x 261 1 11 p') (f : Nat) (hf : 20 * (x.T.length - p) ≤ f) :
  Calls Tryz.prog 300 #[.pointer (some ⟨x.g,0,none⟩)] w (EPost x S p p n o L (callR f (x.at p)) w) := by
 have HN := Lib.hid (name_yes w h hk)
 have hp := kind_lt hk (by decide)
 have hnp := h.np
 unfold callR
 rw [tail_at]
 generalize (hd (x.at p)).2.1 = s at *
 clear h
 cases h40 : isT [40] (hd (x.at (p + 1))) with
 | false =>
  rw [if_neg (by decide)]
  go_enter Tryz.func300,Tryz.ntmps300
  go_wp2_with fail
  refine HN.out.mono ?_
  rintro e w1 ⟨rfl,r1,t1⟩
  have R1 := Lib.hid r1
  have T1 := Lib.hid t1
  have HA := Lib.hid (accept_no [40] w1 r1 h40)
  clear r1 t1
  go_wp2_with fail
  refine HA.out.mono ?_
  rintro e w2 ⟨rfl,r2,t2⟩
  have T2 := Lib.hid (T1.out.trans t2)
  have HD := Lib.hid (add_leaf 5 s 0 w2 r2 (by omega))
  clear r2 t2
  go_wp2_with fail
  refine HD.out.mono ?_
  rintro e w3 ⟨rfl,o3,c3,r3,t3⟩
  have R3 := Lib.hid r3
  have T3 := Lib.hid (T2.out.trans t3)
  clear r3 t3
  go_wp2_with fail
  go_ret
  exact EPost.mk (p := p) (q := p) (p' := p + 1) (t := leaf 5 s 0) (o' := o3) (c' := c3) (by rw [size_leaf]; omega) R3.out T3.out (by omega) (by rw [size_leaf]; omega)
 | true =>
  rw [if_pos rfl,tail_at]
  have hp2 := isT_lt h40
  go_enter Tryz.func300,Tryz.ntmps300
  go_wp2_with fail
  refine HN.out.mono ?_
  rintro e w1 ⟨rfl,r1,t1⟩
  have R1 := Lib.hid r1
  have T1 := Lib.hid t1
  have HA := Lib.hid (accept_yes [40] w1 r1 h40)
  clear r1 t1
  go_wp2_with fail
  refine HA.out.mono ?_
  rintro e w2 ⟨rfl,r2,t2⟩
  have T2 := Lib.hid (T1.out.trans t2)
  have HG := Lib.hid (group_any (q := p) 11 s [41] w2 r2 (by omega) (by omega) (fun p' hp' => hE p' (by omega)) f (by omega))
  clear r2 t2
  go_wp2_with fail
  refine HG.out.mono ?_
  intro e w3 h3
  have h4 := EPost.from T2.out h3
  clear h3
  rw [show p + 1 + 1 = p + 2 from rfl] at *
  cases hX : rdL f [41] (x.at (p + 2)) with
  | bad r =>
   rw [hX] at h4
   obtain ⟨rfl,H4⟩ := h4
   have H4c := Lib.hid H4
   clear H4
   go_wp2_with fail
   exact ⟨rfl,rfl,H4c.out⟩
  | ok ts r =>
   rw [hX] at h4
   obtain ⟨rfl,p4,o4,c4,r4,t4,rfl,hp4,hs4⟩ := h4
   have R4 := Lib.hid r4
   have T4 := Lib.hid t4
   clear r4 t4
   go_wp2_with fail
   go_ret
   rw [hX]
   exact EPost.mk rfl R4.out T4.out (by omega) hs4
theorem prm_call (f : Nat) (r : List Ck) (h : (hd r).1 = 1) : prm (f + 1) r = callR f r := by
 rw [prm,if_neg (by rw [h]; decide),if_neg (by rw [h]; decide),if_pos h]
 unfold callR
 split
 ·cases rdL f [41] r.tail.tail <;> rfl
 ·rfl
def parR : RR T → RR T
 | .ok t r => if isT [41] (hd r) then .ok t r.tail else .bad r
 | .bad r => .bad r
theorem parR_y {t : T} {r : List Ck} (h : isT [41] (hd r) = true) : parR (.ok t r) = .ok t r.tail := if_pos h
theorem parR_n {t : T} {r : List Ck} (h : isT [41] (hd r) = false) : parR (.ok t r) = .bad r := if_neg (by rw [h]; decide)
theorem prm_host_n (f : Nat) (r : List Ck) (h : (hd r).1 = 6) (h2 : isT [40] (hd r.tail) = false) : prm (f + 1) r = .bad r.tail := by
 rw [prm,if_neg (by rw [h]; decide),if_neg (by rw [h]; decide),if_neg (by rw [h]; decide),if_pos h,if_neg (by rw [h2]; decide)]
theorem prm_host_y (f : Nat) (r : List Ck) (h : (hd r).1 = 6) (h2 : isT [40] (hd r.tail) = true) : prm (f + 1) r = grpR 12 (hd r).2.1 (rdL f [41] r.tail.tail) := by
 rw [prm,if_neg (by rw [h]; decide),if_neg (by rw [h]; decide),if_neg (by rw [h]; decide),if_pos h,if_pos h2]
 cases rdL f [41] r.tail.tail <;> rfl
theorem prm_w0 {f : Nat} {r : List Ck} (h3 : ¬ (hd r).1 = 3) (h4 : ¬ (hd r).1 = 4) (h1 : ¬ (hd r).1 = 1) (h6 : ¬ (hd r).1 = 6)  (b0 : isT [110,117,108,108] (hd r) = true) : prm (f + 1) r = .ok (leaf 1 [] 0) r.tail := by
 rw [prm,if_neg h3,if_neg h4,if_neg h1,if_neg h6,if_pos b0]
theorem prm_w1 {f : Nat} {r : List Ck} (h3 : ¬ (hd r).1 = 3) (h4 : ¬ (hd r).1 = 4) (h1 : ¬ (hd r).1 = 1) (h6 : ¬ (hd r).1 = 6) (b0 : isT [110,117,108,108] (hd r) = false) (b1 : isT [102,97,108,115,101] (hd r) = true) : prm (f + 1) r = .ok (leaf 2 [] 0) r.tail := by
 rw [prm,if_neg h3,if_neg h4,if_neg h1,if_neg h6,if_neg (by rw [b0]; decide),if_pos b1]
theorem prm_w2 {f : Nat} {r : List Ck} (h3 : ¬ (hd r).1 = 3) (h4 : ¬ (hd r).1 = 4) (h1 : ¬ (hd r).1 = 1) (h6 : ¬ (hd r).1 = 6) (b0 : isT [110,117,108,108] (hd r) = false) (b1 : isT [102,97,108,115,101] (hd r) = false) (b2 : isT [116,114,117,101] (hd r) = true) : prm (f + 1) r = .ok (leaf 2 [] 1) r.tail := by
 rw [prm,if_neg h3,if_neg h4,if_neg h1,if_neg h6,if_neg (by rw [b0]; decide),if_neg (by rw [b1]; decide),if_pos b2]
theorem prm_w3 {f : Nat} {r : List Ck} (h3 : ¬ (hd r).1 = 3) (h4 : ¬ (hd r).1 = 4) (h1 : ¬ (hd r).1 = 1) (h6 : ¬ (hd r).1 = 6) (b0 : isT [110,117,108,108] (hd r) = false) (b1 : isT [102,97,108,115,101] (hd r) = false) (b2 : isT [116,114,117,101] (hd r) = false) (b3 : isT [91] (hd r) = true) : prm (f + 1) r = grpR 6 [] (rdL f [93] r.tail) := by
 rw [prm,if_neg h3,if_neg h4,if_neg h1,if_neg h6,if_neg (by rw [b0]; decide),if_neg (by rw [b1]; decide),if_neg (by rw [b2]; decide),if_pos b3]
 cases rdL f [93] r.tail <;> rfl
theorem prm_w4 {f : Nat} {r : List Ck} (h3 : ¬ (hd r).1 = 3) (h4 : ¬ (hd r).1 = 4) (h1 : ¬ (hd r).1 = 1) (h6 : ¬ (hd r).1 = 6) (b0 : isT [110,117,108,108] (hd r) = false) (b1 : isT [102,97,108,115,101] (hd r) = false) (b2 : isT [116,114,117,101] (hd r) = false) (b3 : isT [91] (hd r) = false) (b4 : isT [123] (hd r) = true) : prm (f + 1) r = mapR (itl gP [125] f ([],.nil) r.tail) := by
 rw [prm,if_neg h3,if_neg h4,if_neg h1,if_neg h6,if_neg (by rw [b0]; decide),if_neg (by rw [b1]; decide),if_neg (by rw [b2]; decide),if_neg (by rw [b3]; decide),if_pos b4]
 unfold itl
 split
 ·rfl
 ·rw [its_rdQ]
  cases rdQ f [] .nil r.tail <;> rfl
theorem prm_w5 {f : Nat} {r : List Ck} (h3 : ¬ (hd r).1 = 3) (h4 : ¬ (hd r).1 = 4) (h1 : ¬ (hd r).1 = 1) (h6 : ¬ (hd r).1 = 6) (b0 : isT [110,117,108,108] (hd r) = false) (b1 : isT [102,97,108,115,101] (hd r) = false) (b2 : isT [116,114,117,101] (hd r) = false) (b3 : isT [91] (hd r) = false) (b4 : isT [123] (hd r) = false) (b5 : isT [40] (hd r) = true) : prm (f + 1) r = parR (rdE f 1 r.tail) := by
 rw [prm,if_neg h3,if_neg h4,if_neg h1,if_neg h6,if_neg (by rw [b0]; decide),if_neg (by rw [b1]; decide),if_neg (by rw [b2]; decide),if_neg (by rw [b3]; decide),if_neg (by rw [b4]; decide),if_pos b5]
 cases rdE f 1 r.tail <;> rfl
theorem prm_w6 {f : Nat} {r : List Ck} (h3 : ¬ (hd r).1 = 3) (h4 : ¬ (hd r).1 = 4) (h1 : ¬ (hd r).1 = 1) (h6 : ¬ (hd r).1 = 6) (b0 : isT [110,117,108,108] (hd r) = false) (b1 : isT [102,97,108,115,101] (hd r) = false) (b2 : isT [116,114,117,101] (hd r) = false) (b3 : isT [91] (hd r) = false) (b4 : isT [123] (hd r) = false) (b5 : isT [40] (hd r) = false) : prm (f + 1) r = .bad r := by
 rw [prm,if_neg h3,if_neg h4,if_neg h1,if_neg h6,if_neg (by rw [b0]; decide),if_neg (by rw [b1]; decide),if_neg (by rw [b2]; decide),if_neg (by rw [b3]; decide),if_neg (by rw [b4]; decide),if_neg (by rw [b5]; decide)]
theorem rdE_9 (f : Nat) (r : List Ck) : rdE (f + 1) 9 r = prm f r := by rw [rdE]; rfl
theorem prim_any {x : Cx} {p : Nat} (hE : ∀ p',p < p' → Lv x 261 1 11 p') : Lv x 299 9 3 p := by
 intro F hF S o n c L w h
 obtain ⟨f,rfl⟩ : ∃ g,F = g + 2 := ⟨F - 2,by omega⟩
 rw [rdE_9]
 obtain ⟨m0,d,c0,e1,e2,e3⟩ := h.ts.tok
 obtain ⟨t0,t1,t2,t3⟩ := h.ts.tks p h.ts.pos
 have hlt : x.g < w.heap.size := cell_lt' c0
 have htb : x.tb < w.heap.size := cell_lt' t0
 have hnp := h.np
 have hlen := h.ts.pos
 have hF1 := fun (a b c d : Value) (w : World) => field_text a b c d w
 have hF2 := fun (a b c d : Value) (w : World) => field_int a b c d w
 have hx := hd_at x p
 obtain ⟨tk,ht⟩ : ∃ tk,x.tok p = tk := ⟨_,rfl⟩
 rw [ht] at hx t0 t1 t2 t3
 obtain ⟨⟨k,s,i⟩,a⟩ := tk
 dsimp only at t0 t1 t2 t3 hx
 generalize p * 4 = z at *
 by_cases hk : k = 3
 ·subst hk
  have HT := Lib.hid (take_any w h (kind_lt (k := 3) (by rw [hx]) (by decide)))
  rw [ht] at HT
  unfold tokV at HT
  rw [prm,hx,if_pos rfl]
  rw [tail_at]
  dsimp only at HT ⊢
  clear h
  go_enter Tryz.func299,Tryz.ntmps299
  go_wp2_with fail
  refine HT.out.mono ?_
  rintro e w1 ⟨rfl,r1,u1⟩
  have T1 := Lib.hid u1
  have HD := Lib.hid (add_leaf 3 [] i w1 r1 (by omega))
  clear r1 u1
  go_wp2_with fail
  refine HD.out.mono ?_
  rintro e w3 ⟨rfl,o3,c3,r3,u3⟩
  have R3 := Lib.hid r3
  have T3 := Lib.hid (T1.out.trans u3)
  clear r3 u3
  go_wp2_with fail
  go_ret
  exact EPost.mk (p := p) (q := p) (p' := p + 1) (t := leaf 3 [] i) (o' := o3) (c' := c3) (by rw [size_leaf]; omega) R3.out T3.out (by omega) (by rw [size_leaf]; omega)
 have h3 := hk
 clear hk
 by_cases hk : k = 4
 ·subst hk
  have HT := Lib.hid (take_any w h (kind_lt (k := 4) (by rw [hx]) (by decide)))
  rw [ht] at HT
  unfold tokV at HT
  rw [prm,hx,if_neg (by show ¬ (4 : Int) = 3; decide),if_pos rfl]
  rw [tail_at]
  dsimp only at HT ⊢
  clear h
  go_enter Tryz.func299,Tryz.ntmps299
  go_wp2_with fail
  refine HT.out.mono ?_
  rintro e w1 ⟨rfl,r1,u1⟩
  have T1 := Lib.hid u1
  have HD := Lib.hid (add_leaf 4 s 0 w1 r1 (by omega))
  clear r1 u1
  go_wp2_with fail
  refine HD.out.mono ?_
  rintro e w3 ⟨rfl,o3,c3,r3,u3⟩
  have R3 := Lib.hid r3
  have T3 := Lib.hid (T1.out.trans u3)
  clear r3 u3
  go_wp2_with fail
  go_ret
  exact EPost.mk (p := p) (q := p) (p' := p + 1) (t := leaf 4 s 0) (o' := o3) (c' := c3) (by rw [size_leaf]; omega) R3.out T3.out (by omega) (by rw [size_leaf]; omega)
 have h4 := hk
 clear hk
 by_cases hk : k = 1
 ·subst hk
  have hk1 : (hd (x.at p)).1 = 1 := by rw [hx]
  have HC := Lib.hid (called_any w h hk1 hE f (by omega))
  rw [prm_call f _ hk1]
  generalize callR f (x.at p) = X at HC ⊢
  clear h
  go_enter Tryz.func299,Tryz.ntmps299
  go_wp2_with fail
  refine HC.out.mono ?_
  intro e w1 h1
  cases X with
  | bad r =>
   obtain ⟨rfl,H2⟩ := h1
   have H2c := Lib.hid H2
   clear H2
   go_wp2_with fail
   exact ⟨rfl,rfl,H2c.out⟩
  | ok t r =>
   obtain ⟨rfl,H2⟩ := h1
   have H2c := Lib.hid H2
   clear H2
   go_wp2_with fail
   go_ret
   exact ⟨rfl,H2c.out⟩
 have h1 := hk
 clear hk
 by_cases hk : k = 6
 ·subst hk
  have HT := Lib.hid (take_any w h (kind_lt (k := 6) (by rw [hx]) (by decide)))
  rw [ht] at HT
  unfold tokV at HT
  have hk6 : (hd (x.at p)).1 = 6 := by rw [hx]
  dsimp only at HT
  clear h
  cases h40 : isT [40] (hd (x.at (p + 1))) with
  | false =>
   rw [prm_host_n _ _ hk6 (by rw [tail_at]; exact h40),tail_at]
   go_enter Tryz.func299,Tryz.ntmps299
   go_wp2_with fail
   refine HT.out.mono ?_
   rintro e w1 ⟨rfl,r1,u1⟩
   have T1 := Lib.hid u1
   have HA := Lib.hid (fun W (B : Bel w1 W) => expect_no [40] W (r1.on B) h40)
   clear r1 u1
   go_wp2_with fail
   have B1 := Bel.alloc (Bel.refl w1) (.cells #[.int .i64 12,.string ⟨s.toArray⟩,.int .i64 0,.slice none 0 0,.slice none 0 0] 65)
   refine (HA.out _ B1).mono ?_
   intro e w2 h2
   obtain ⟨rfl,H2⟩ := Stops.from (T1.out.bel B1) h2
   have H2c := Lib.hid H2
   clear h2 H2
   go_wp2_with fail
   exact ⟨rfl,rfl,H2c.out⟩
  | true =>
   have hp2 := isT_lt h40
   rw [prm_host_y _ _ hk6 (by rw [tail_at]; exact h40),tail_at,tail_at,hx]
   go_enter Tryz.func299,Tryz.ntmps299
   go_wp2_with fail
   refine HT.out.mono ?_
   rintro e w1 ⟨rfl,r1,u1⟩
   have T1 := Lib.hid u1
   have HA := Lib.hid (fun W (B : Bel w1 W) => expect_yes [40] W (r1.on B) h40)
   have hbox := box5 w1 (.int .i64 12) (.string ⟨s.toArray⟩) (.int .i64 0) (.slice none 0 0) (.slice none 0 0) 65
   have hrs := r1.sl
   have hrb := fun b (hb : Blk o b) => (r1.own.blk hb).2
   have hg1 : x.g < w1.heap.size := cell_lt' r1.nod
   clear r1 u1
   go_wp2_with fail
   have B1 := Bel.alloc (Bel.refl w1) (.cells #[.int .i64 12,.string ⟨s.toArray⟩,.int .i64 0,.slice none 0 0,.slice none 0 0] 65)
   refine (HA.out _ B1).mono ?_
   rintro e w2 ⟨rfl,r2,u2⟩
   have T2 := Lib.hid ((T1.out.bel B1).trans u2)
   have hnF : ¬ (w1.heap.size = x.g ∨ Blk o w1.heap.size) := fun q => by
    rcases q with q | q
    ·omega
    ·exact Nat.lt_irrefl _ (hrb _ q)
   have y0 := u2.mod.cell hbox.1 hnF
   have y1 := u2.mod.cell hbox.2.1 hnF
   have y2 := u2.mod.cell hbox.2.2.1 hnF
   have y3 := u2.mod.cell hbox.2.2.2.1 hnF
   have y4 := u2.mod.cell hbox.2.2.2.2 hnF
   have HG := Lib.hid (group_any (q := p) 12 s [41] w2 r2 (by omega) (by omega) (fun p' hp' => hE p' (by omega)) f (by omega))
   clear r2 u2 hbox hrs hrb
   go_wp2_with fail
   refine HG.out.mono ?_
   intro e w3 h3
   have h4 := EPost.from T2.out h3
   clear h3 y0 y1 y2 y3 y4
   rw [show p + 1 + 1 = p + 2 from rfl] at *
   cases hX : rdL f [41] (x.at (p + 2)) with
   | bad r =>
    rw [hX] at h4
    obtain ⟨rfl,H4⟩ := h4
    have H4c := Lib.hid H4
    clear H4
    go_wp2_with fail
    exact ⟨rfl,rfl,H4c.out⟩
   | ok ts r =>
    rw [hX] at h4
    obtain ⟨rfl,p4,o4,c4,r4,u4,rfl,hp4,hs4⟩ := h4
    have R4 := Lib.hid r4
    have T4 := Lib.hid u4
    clear r4 u4
    go_wp2_with fail
    go_ret
    rw [hX]
    exact EPost.mk rfl R4.out T4.out (by omega) hs4
 have h6 := hk
 clear hk
 have n3 : (k == 3) = false := by simpa using h3
 have n4 : (k == 4) = false := by simpa using h4
 have n1 : (k == 1) = false := by simpa using h1
 have n6 : (k == 6) = false := by simpa using h6
 have h3 : ¬ (hd (x.at p)).1 = 3 := by rw [hx]; exact h3
 have h4 : ¬ (hd (x.at p)).1 = 4 := by rw [hx]; exact h4
 have h1 : ¬ (hd (x.at p)).1 = 1 := by rw [hx]; exact h1
 have h6 : ¬ (hd (x.at p)).1 = 6 := by rw [hx]; exact h6
 clear hx ht
 by_cases b0 : isT [110,117,108,108] (hd (x.at p)) = true
 ·rw [prm_w0 h3 h4 h1 h6 b0,tail_at]
  have hp2 := isT_lt b0
  have R0 := Lib.hid h
  have T0 := Lib.hid (RTo.refl x.g o w)
  clear h
  go_enter Tryz.func299,Tryz.ntmps299
  go_wp2_with fail
  refine (accept_yes [110,117,108,108] _ R0.out b0).mono ?_
  rintro e v0 ⟨rfl,r,u⟩
  have T9 := Lib.hid (T0.out.trans u)
  have HD := Lib.hid (add_leaf 1 [] 0 v0 r (by omega))
  clear r u
  go_wp2_with fail
  refine HD.out.mono ?_
  rintro e w3 ⟨rfl,o3,c3,r3,u3⟩
  have R10 := Lib.hid r3
  have T10 := Lib.hid (T9.out.trans u3)
  clear r3 u3
  go_wp2_with fail
  go_ret
  exact EPost.mk (p := p) (q := p) (p' := p + 1) (t := leaf 1 [] 0) (o' := o3) (c' := c3) (by rw [size_leaf]; omega) R10.out T10.out (by omega) (by rw [size_leaf]; omega)
 have b0 : isT [110,117,108,108] (hd (x.at p)) = false := by simpa using b0
 by_cases b1 : isT [102,97,108,115,101] (hd (x.at p)) = true
 ·rw [prm_w1 h3 h4 h1 h6 b0 b1,tail_at]
  have hp2 := isT_lt b1
  have R0 := Lib.hid h
  have T0 := Lib.hid (RTo.refl x.g o w)
  clear h
  go_enter Tryz.func299,Tryz.ntmps299
  go_wp2_with fail
  refine (accept_no [110,117,108,108] _ R0.out b0).mono ?_
  rintro e v0 ⟨rfl,r1,u1⟩
  have R1 := Lib.hid r1
  have T1 := Lib.hid (T0.out.trans u1)
  clear r1 u1
  go_wp2_with fail
  refine (accept_yes [102,97,108,115,101] _ R1.out b1).mono ?_
  rintro e v1 ⟨rfl,r,u⟩
  have T9 := Lib.hid (T1.out.trans u)
  have HD := Lib.hid (add_leaf 2 [] 0 v1 r (by omega))
  clear r u
  go_wp2_with fail
  refine HD.out.mono ?_
  rintro e w3 ⟨rfl,o3,c3,r3,u3⟩
  have R10 := Lib.hid r3
  have T10 := Lib.hid (T9.out.trans u3)
  clear r3 u3
  go_wp2_with fail
  go_ret
  exact EPost.mk (p := p) (q := p) (p' := p + 1) (t := leaf 2 [] 0) (o' := o3) (c' := c3) (by rw [size_leaf]; omega) R10.out T10.out (by omega) (by rw [size_leaf]; omega)
 have b1 : isT [102,97,108,115,101] (hd (x.at p)) = false := by simpa using b1
 by_cases b2 : isT [116,114,117,101] (hd (x.at p)) = true
 ·rw [prm_w2 h3 h4 h1 h6 b0 b1 b2,tail_at]
  have hp2 := isT_lt b2
  have R0 := Lib.hid h
  have T0 := Lib.hid (RTo.refl x.g o w)
  clear h
  go_enter Tryz.func299,Tryz.ntmps299
  go_wp2_with fail
  refine (accept_no [110,117,108,108] _ R0.out b0).mono ?_
  rintro e v0 ⟨rfl,r1,u1⟩
  have R1 := Lib.hid r1
  have T1 := Lib.hid (T0.out.trans u1)
  clear r1 u1
  go_wp2_with fail
  refine (accept_no [102,97,108,115,101] _ R1.out b1).mono ?_
  rintro e v1 ⟨rfl,r2,u2⟩
  have R2 := Lib.hid r2
  have T2 := Lib.hid (T1.out.trans u2)
  clear r2 u2
  go_wp2_with fail
  refine (accept_yes [116,114,117,101] _ R2.out b2).mono ?_
  rintro e v2 ⟨rfl,r,u⟩
  have T9 := Lib.hid (T2.out.trans u)
  have HD := Lib.hid (add_leaf 2 [] 1 v2 r (by omega))
  clear r u
  go_wp2_with fail
  refine HD.out.mono ?_
  rintro e w3 ⟨rfl,o3,c3,r3,u3⟩
  have R10 := Lib.hid r3
  have T10 := Lib.hid (T9.out.trans u3)
  clear r3 u3
  go_wp2_with fail
  go_ret
  exact EPost.mk (p := p) (q := p) (p' := p + 1) (t := leaf 2 [] 1) (o' := o3) (c' := c3) (by rw [size_leaf]; omega) R10.out T10.out (by omega) (by rw [size_leaf]; omega)
 have b2 : isT [116,114,117,101] (hd (x.at p)) = false := by simpa using b2
 by_cases b3 : isT [91] (hd (x.at p)) = true
 ·rw [prm_w3 h3 h4 h1 h6 b0 b1 b2 b3,tail_at]
  have hp2 := isT_lt b3
  have R0 := Lib.hid h
  have T0 := Lib.hid (RTo.refl x.g o w)
  clear h
  go_enter Tryz.func299,Tryz.ntmps299
  go_wp2_with fail
  refine (accept_no [110,117,108,108] _ R0.out b0).mono ?_
  rintro e v0 ⟨rfl,r1,u1⟩
  have R1 := Lib.hid r1
  have T1 := Lib.hid (T0.out.trans u1)
  clear r1 u1
  go_wp2_with fail
  refine (accept_no [102,97,108,115,101] _ R1.out b1).mono ?_
  rintro e v1 ⟨rfl,r2,u2⟩
  have R2 := Lib.hid r2
  have T2 := Lib.hid (T1.out.trans u2)
  clear r2 u2
  go_wp2_with fail
  refine (accept_no [116,114,117,101] _ R2.out b2).mono ?_
  rintro e v2 ⟨rfl,r3,u3⟩
  have R3 := Lib.hid r3
  have T3 := Lib.hid (T2.out.trans u3)
  clear r3 u3
  go_wp2_with fail
  refine (accept_yes [91] _ R3.out b3).mono ?_
  rintro e v3 ⟨rfl,r,u⟩
  have T9 := Lib.hid (T3.out.trans u)
  have HG := Lib.hid (group_any (q := p) 6 [] [93] v3 r (by omega) (by omega) (fun p' hp' => hE p' (by omega)) f (by omega))
  clear r u
  go_wp2_with fail
  refine HG.out.mono ?_
  intro e w3 h3
  have h4 := EPost.from T9.out h3
  clear h3
  cases hX : rdL f [93] (x.at (p + 1)) with
  | bad r =>
   rw [hX] at h4
   obtain ⟨rfl,H4⟩ := h4
   have H4c := Lib.hid H4
   clear H4
   go_wp2_with fail
   exact ⟨rfl,rfl,H4c.out⟩
  | ok ts r =>
   rw [hX] at h4
   obtain ⟨rfl,p4,o4,c4,r4,u4,rfl,hp4,hs4⟩ := h4
   have R4 := Lib.hid r4
   have T4 := Lib.hid u4
   clear r4 u4
   go_wp2_with fail
   go_ret
   rw [hX]
   exact EPost.mk rfl R4.out T4.out (by omega) hs4
 have b3 : isT [91] (hd (x.at p)) = false := by simpa using b3
 by_cases b4 : isT [123] (hd (x.at p)) = true
 ·rw [prm_w4 h3 h4 h1 h6 b0 b1 b2 b3 b4,tail_at]
  have hp2 := isT_lt b4
  have R0 := Lib.hid h
  have T0 := Lib.hid (RTo.refl x.g o w)
  clear h
  go_enter Tryz.func299,Tryz.ntmps299
  go_wp2_with fail
  refine (accept_no [110,117,108,108] _ R0.out b0).mono ?_
  rintro e v0 ⟨rfl,r1,u1⟩
  have R1 := Lib.hid r1
  have T1 := Lib.hid (T0.out.trans u1)
  clear r1 u1
  go_wp2_with fail
  refine (accept_no [102,97,108,115,101] _ R1.out b1).mono ?_
  rintro e v1 ⟨rfl,r2,u2⟩
  have R2 := Lib.hid r2
  have T2 := Lib.hid (T1.out.trans u2)
  clear r2 u2
  go_wp2_with fail
  refine (accept_no [116,114,117,101] _ R2.out b2).mono ?_
  rintro e v2 ⟨rfl,r3,u3⟩
  have R3 := Lib.hid r3
  have T3 := Lib.hid (T2.out.trans u3)
  clear r3 u3
  go_wp2_with fail
  refine (accept_no [91] _ R3.out b3).mono ?_
  rintro e v3 ⟨rfl,r4,u4⟩
  have R4 := Lib.hid r4
  have T4 := Lib.hid (T3.out.trans u4)
  clear r4 u4
  go_wp2_with fail
  refine (accept_yes [123] _ R4.out b4).mono ?_
  rintro e v4 ⟨rfl,r,u⟩
  have T9 := Lib.hid (T4.out.trans u)
  have HG := Lib.hid (pairs_any (q := p) v4 r (by omega) (by omega) (fun p' hp' => hE p' (by omega)) f (by omega))
  clear r u
  go_wp2_with fail
  refine HG.out.mono ?_
  intro e w3 h3
  have h4 := EPost.from T9.out h3
  clear h3
  cases hX : itl gP [125] f ([],.nil) (x.at (p + 1)) with
  | bad r =>
   rw [hX] at h4
   obtain ⟨rfl,H4⟩ := h4
   have H4c := Lib.hid H4
   clear H4
   go_wp2_with fail
   exact ⟨rfl,rfl,H4c.out⟩
  | ok ts r =>
   rw [hX] at h4
   obtain ⟨rfl,p4,o4,c4,r4,u4,rfl,hp4,hs4⟩ := h4
   have R4 := Lib.hid r4
   have T4 := Lib.hid u4
   clear r4 u4
   go_wp2_with fail
   go_ret
   rw [hX]
   exact EPost.mk rfl R4.out T4.out (by omega) hs4
 have b4 : isT [123] (hd (x.at p)) = false := by simpa using b4
 by_cases b5 : isT [40] (hd (x.at p)) = true
 ·rw [prm_w5 h3 h4 h1 h6 b0 b1 b2 b3 b4 b5,tail_at]
  have hp2 := isT_lt b5
  have hEE := hE (p + 1) (by omega) f (by omega)
  have R0 := Lib.hid h
  have T0 := Lib.hid (RTo.refl x.g o w)
  clear h
  go_enter Tryz.func299,Tryz.ntmps299
  go_wp2_with fail
  refine (accept_no [110,117,108,108] _ R0.out b0).mono ?_
  rintro e v0 ⟨rfl,r1,u1⟩
  have R1 := Lib.hid r1
  have T1 := Lib.hid (T0.out.trans u1)
  clear r1 u1
  go_wp2_with fail
  refine (accept_no [102,97,108,115,101] _ R1.out b1).mono ?_
  rintro e v1 ⟨rfl,r2,u2⟩
  have R2 := Lib.hid r2
  have T2 := Lib.hid (T1.out.trans u2)
  clear r2 u2
  go_wp2_with fail
  refine (accept_no [116,114,117,101] _ R2.out b2).mono ?_
  rintro e v2 ⟨rfl,r3,u3⟩
  have R3 := Lib.hid r3
  have T3 := Lib.hid (T2.out.trans u3)
  clear r3 u3
  go_wp2_with fail
  refine (accept_no [91] _ R3.out b3).mono ?_
  rintro e v3 ⟨rfl,r4,u4⟩
  have R4 := Lib.hid r4
  have T4 := Lib.hid (T3.out.trans u4)
  clear r4 u4
  go_wp2_with fail
  refine (accept_no [123] _ R4.out b4).mono ?_
  rintro e v4 ⟨rfl,r5,u5⟩
  have R5 := Lib.hid r5
  have T5 := Lib.hid (T4.out.trans u5)
  clear r5 u5
  go_wp2_with fail
  refine (accept_yes [40] _ R5.out b5).mono ?_
  rintro e v5 ⟨rfl,r,u⟩
  have T9 := Lib.hid (T5.out.trans u)
  have HG := Lib.hid (hEE S _ _ _ _ v5 r)
  clear r u
  go_wp2_with fail
  refine HG.out.mono ?_
  intro e w3 h3
  have h4 := EPost.from T9.out h3
  clear h3 HG
  cases hX : rdE f 1 (x.at (p + 1)) with
  | bad r =>
   rw [hX] at h4
   obtain ⟨rfl,H4⟩ := h4
   have H4c := Lib.hid H4
   clear H4
   go_wp2_with fail
   exact ⟨rfl,rfl,H4c.out⟩
  | ok t r =>
   rw [hX] at h4
   obtain ⟨rfl,p4,o4,c4,r4,u4,rfl,hp4,hs4⟩ := h4
   have R11 := Lib.hid r4
   have T11 := Lib.hid u4
   clear r4 u4
   cases b41 : isT [41] (hd (x.at p4)) with
   | false =>
    go_wp2_with fail
    refine (expect_no [41] _ R11.out b41).mono ?_
    intro e w5 h5
    obtain ⟨rfl,H5⟩ := Stops.from T11.out h5
    have H5c := Lib.hid H5
    clear h5 H5
    go_wp2_with fail
    rw [parR_n b41]
    exact ⟨rfl,rfl,H5c.out⟩
   | true =>
    go_wp2_with fail
    refine (expect_yes [41] _ R11.out b41).mono ?_
    rintro e w5 ⟨rfl,r5,u5⟩
    have R12 := Lib.hid r5
    have T12 := Lib.hid (T11.out.trans u5)
    clear r5 u5
    go_wp2_with fail
    go_ret
    rw [hX,parR_y b41,tail_at]
    exact EPost.mk rfl R12.out T12.out (by omega) (by omega)
 have b5 : isT [40] (hd (x.at p)) = false := by simpa using b5
 rw [prm_w6 h3 h4 h1 h6 b0 b1 b2 b3 b4 b5]
 have R0 := Lib.hid h
 have T0 := Lib.hid (RTo.refl x.g o w)
 clear h
 go_enter Tryz.func299,Tryz.ntmps299
 go_wp2_with fail
 refine (accept_no [110,117,108,108] _ R0.out b0).mono ?_
 rintro e v0 ⟨rfl,r1,u1⟩
 have R1 := Lib.hid r1
 have T1 := Lib.hid (T0.out.trans u1)
 clear r1 u1
 go_wp2_with fail
 refine (accept_no [102,97,108,115,101] _ R1.out b1).mono ?_
 rintro e v1 ⟨rfl,r2,u2⟩
 have R2 := Lib.hid r2
 have T2 := Lib.hid (T1.out.trans u2)
 clear r2 u2
 go_wp2_with fail
 refine (accept_no [116,114,117,101] _ R2.out b2).mono ?_
 rintro e v2 ⟨rfl,r3,u3⟩
 have R3 := Lib.hid r3
 have T3 := Lib.hid (T2.out.trans u3)
 clear r3 u3
 go_wp2_with fail
 refine (accept_no [91] _ R3.out b3).mono ?_
 rintro e v3 ⟨rfl,r4,u4⟩
 have R4 := Lib.hid r4
 have T4 := Lib.hid (T3.out.trans u4)
 clear r4 u4
 go_wp2_with fail
 refine (accept_no [123] _ R4.out b4).mono ?_
 rintro e v4 ⟨rfl,r5,u5⟩
 have R5 := Lib.hid r5
 have T5 := Lib.hid (T4.out.trans u5)
 clear r5 u5
 go_wp2_with fail
 refine (accept_no [40] _ R5.out b5).mono ?_
 rintro e v5 ⟨rfl,r6,u6⟩
 have R6 := Lib.hid r6
 have T6 := Lib.hid (T5.out.trans u6)
 clear r6 u6
 go_wp2_with fail
 exact ⟨rfl,rfl,T6.out.mod,p,R6.out.ts,rfl⟩

theorem lv_out {x : Cx} {F : FuncId} {l k p : Nat} (h : x.T.length < p) : Lv x F l k p := fun f _ S o n c L w hr => by
 have := hr.ts.pos
 omega
structure Al (x : Cx) (p : Nat) : Prop where
 expr : Lv x 261 1 11 p
 and : Lv x 271 2 10 p
 not : Lv x 277 3 9 p
 cmp : Lv x 280 4 8 p
 sum : Lv x 285 5 7 p
 term : Lv x 290 6 6 p
 unary : Lv x 292 7 5 p
 post : Lv x 294 8 4 p
 prim : Lv x 299 9 3 p
theorem al_out {x : Cx} {p : Nat} (h : x.T.length < p) : Al x p := ⟨lv_out h,lv_out h,lv_out h,lv_out h,lv_out h,lv_out h,lv_out h,lv_out h,lv_out h⟩
theorem al_any (x : Cx) : ∀ d p,x.T.length + 1 - p ≤ d → Al x p
 | 0,p,h => al_out (by omega)
 | d + 1,p,h => by
  have IH : ∀ p',p < p' → Al x p' := fun p' h' => al_any x d p' (by omega)
  have up : ∀ {F l k},Lv x F l k p → (∀ p',p < p' → Lv x F l k p') → ∀ p',p ≤ p' → Lv x F l k p' := fun h0 h1 p' h' => by
   rcases Nat.eq_or_lt_of_le h' with rfl | h'
   ·exact h0
   ·exact h1 p' h'
  have prim := prim_any (x := x) (p := p) fun p' h' => (IH p' h').expr
  have post := post_any (x := x) (p0 := p) prim fun p' h' => (IH p' h').expr
  have unary := unary_any (x := x) (p := p) (fun p' h' => (IH p' h').unary) post
  have term := term_any (x := x) (p := p) (up unary fun p' h' => (IH p' h').unary)
  have sum := sum_any (x := x) (p := p) (up term fun p' h' => (IH p' h').term)
  have cmp := cmp_any (x := x) (p := p) (up sum fun p' h' => (IH p' h').sum)
  have not := not_any (x := x) (p := p) (fun p' h' => (IH p' h').not) cmp
  have and := and_any (x := x) (p := p) (up not fun p' h' => (IH p' h').not)
  have expr := expr_any (x := x) (p := p) (up and fun p' h' => (IH p' h').and)
  exact ⟨expr,and,not,cmp,sum,term,unary,post,prim⟩
theorem expr_all (x : Cx) (p : Nat) : Lv x 261 1 11 p := (al_any x _ p (Nat.le_refl _)).expr
def Rf (x : Cx) (F : FuncId) (G : Nat → List Ck → RR T) (k p : Nat) : Prop := ∀ f,20 * (x.T.length - p) + k ≤ f → Rd x F (G f) p
def endR (k : Int) (s : Txt) : RR T → RR T
 | .ok t r => if isT [59] (hd r) then .ok (.node k s 0 [] (.cons t .nil)) r.tail else .bad r
 | .bad r => .bad r
theorem endR_y {k : Int} {s : Txt} {t : T} {r : List Ck} (h : isT [59] (hd r) = true) : endR k s (.ok t r) = .ok (.node k s 0 [] (.cons t .nil)) r.tail := if_pos h
theorem endR_n {k : Int} {s : Txt} {t : T} {r : List Ck} (h : isT [59] (hd r) = false) : endR k s (.ok t r) = .bad r := if_neg (by rw [h]; decide)
theorem rdN_end (n : Nat) (k : Int) (s : Txt) (r : List Ck) : rdN n k s r = endR k s (rdE n 1 r) := by
 unfold rdN
 cases rdE n 1 r <;> rfl
theorem flat_one (n : Nat) (k : Int) (s : Txt) (t : T) : flat n (.node k s 0 [] (.cons t .nil)) = flat n t ++ [⟨k,s,0,[],[(n : Int) + (size t : Int) - 1]⟩] := by
 have h1 := size_pos t
 rw [flat,flats,flats,roots,roots,List.append_nil]
 congr 4
 omega
theorem size_one (k : Int) (s : Txt) (t : T) : size (.node k s 0 [] (.cons t .nil)) = size t + 1 := by rw [size,sizes,sizes] <;> omega
theorem ending_any {x : Cx} {S : Nat → Prop} {p : Nat} {o : Option Addr} {n c : Nat} {L : List Nd} (k : Int) (s : Txt) (w : World) (h : RS x S p o n c L w) (q : Nat) (hq : q ≤ p) (f : Nat) (hf : 20 * (x.T.length - p) + 11 ≤ f) :
  Calls Tryz.prog 236 #[.pointer (some ⟨x.g,0,none⟩),.agg #[.int .i64 k,.string ⟨s.toArray⟩,.int .i64 0,.slice none 0 0,.slice none 0 0]] w (EPost x S p q n o L (endR k s (rdE f 1 (x.at p))) w) := by
 have hnp := h.np
 obtain ⟨W,hW⟩ : ∃ W,w.alloc (.cells #[.int .i64 k,.string ⟨s.toArray⟩,.int .i64 0,.slice none 0 0,.slice none 0 0] 65) = W := ⟨_,rfl⟩
 have B : Bel w W := by rw [← hW]; exact Bel.alloc (Bel.refl w) _
 have hb5 : NBox W w.heap.size k s 0 (.slice none 0 0) (.slice none 0 0) := by
  rw [← hW]
  obtain ⟨y0,y1,y2,y3,y4⟩ := box5 w (.int .i64 k) (.string ⟨s.toArray⟩) (.int .i64 0) (.slice none 0 0) (.slice none 0 0) 65
  exact ⟨y0,y1,y2,y3,y4,fun j => World.frozen?_alloc_new _ _ _ _⟩
 have hlt := hb5.lt
 let S' : Nat → Prop := fun b => S b ∨ b = w.heap.size
 have hR' : RS x S' p o n c L W := h.wide B (fun b hb => hb.elim Or.inl fun e => Or.inr (by omega)) (fun b hb => hb.elim (fun e => Nat.lt_of_lt_of_le (h.sl b e).1 B.size) fun e => by rw [e]; exact hlt) (Or.inl h.sg)
 have hne : ¬ (w.heap.size = x.g ∨ Blk o w.heap.size) := fun e => by
  rcases e with e | e
  ·have := (h.sl _ h.sg).1; omega
  ·exact Nat.lt_irrefl _ (h.own.blk e).2
 have hE := expr_all x p f hf S' o n c L W hR'
 have Hw := Lib.hid hW
 have HB := Lib.hid B
 cases hg : rdE f 1 (x.at p) with
 | bad r =>
  rw [hg] at hE
  have HE := Lib.hid (hE.mono fun e w' (k : Stops x o W e w' r) => Stops.from (RTo.of_bel B) k)
  clear h hE hR' B hb5 hW
  go_enter Tryz.func236,Tryz.ntmps236
  go_wp2_with fail
  rw [Hw.out]
  refine HE.out.mono ?_
  rintro e w2 ⟨rfl,H2⟩
  have H2c := Lib.hid H2
  clear H2
  go_wp2_with fail
  exact ⟨rfl,rfl,H2c.out⟩
 | ok t r =>
  rw [hg] at hE
  have HE := Lib.hid hE
  have Hsg := Lib.hid h.sg
  have Hsl := Lib.hid h.sl
  have Htb : Hid (x.tb < w.heap.size) := Lib.hid (Nat.lt_of_lt_of_le h.lt.2.1 h.lt.2.2)
  have Hbx := Lib.hid hb5
  clear h hE hR' B hb5 hW hg
  go_enter Tryz.func236,Tryz.ntmps236
  go_wp2_with fail
  rw [Hw.out]
  refine HE.out.mono ?_
  rintro e w2 ⟨rfl,p2,o2,c2,r2,t2,rfl,hp2,hs2⟩
  have hp2T := r2.ts.pos
  have bx2 := Hbx.out.same (t2.mod.block _ Hbx.out.lt hne)
  have hlt2 := bx2.lt
  -- the kids' row,and the box
  obtain ⟨W2,hW2⟩ : ∃ W2,w2.setCell ⟨w.heap.size,4,none⟩ (.slice (some ⟨w2.heap.size,0,none⟩) 1 1) = W2 := ⟨_,rfl⟩
  have hsz2 : W2.heap.size = w2.heap.size := by rw [← hW2]; simp [World.setCell]
  have m4 : Mod (fun b => b = w.heap.size) w2 W2 := by rw [← hW2]; exact (Mod.refl (fun b => b = w.heap.size) _).setCell (p := ⟨w.heap.size,4,none⟩) (Or.inl rfl) _
  have B2 := Bel.alloc (Bel.refl W2) (.cells #[.int .i64 ((n : Int) + (size t : Int) - 1)] 3)
  have bxW : NBox W2 w.heap.size k s 0 (.slice none 0 0) (.slice (some ⟨w2.heap.size,0,none⟩) 1 1) := by rw [← hW2]; exact bx2.setJ _
  have bx4 := bxW.same (B2.block _ bxW.lt)
  have e1 : x.g < w.heap.size := (Hsl.out _ Hsg.out).1
  have e2 : x.tb ≠ w.heap.size := Nat.ne_of_lt Htb.out
  have r4 := (r2.mod m4 (fun b hb => Or.inr hb) (fun e => by omega) e2).on B2
  have hkb : ∀ b,Blk o2 b → b < w2.heap.size := fun b hb => (r2.own.blk hb).2
  have hsl2 := r2.sl
  have hz4 := new_zarg W2 [(n : Int) + (size t : Int) - 1] 3
  rw [hsz2] at hz4
  have hz4 : ZArg (W2.alloc (.cells #[.int .i64 ((n : Int) + (size t : Int) - 1)] 3)) (some ⟨w2.heap.size,0,none⟩) 1 [(n : Int) + (size t : Int) - 1] := hz4
  have d4 := bx2.js
  have g4 := bx2.fz 4
  have HZ4 := Lib.hid hz4
  have Hkb := Lib.hid hkb
  have Hsl2 := Lib.hid hsl2
  have R4 := Lib.hid r4
  have BX4 := Lib.hid bx4
  have hw12 : w.heap.size < w2.heap.size := hlt2
  have T4 : Hid (RTo x.g o w o2 (W2.alloc (.cells #[.int .i64 ((n : Int) + (size t : Int) - 1)] 3))) := Lib.hid ⟨((((RTo.of_bel (g := x.g) (o := o) HB.out).trans t2).mod).trans m4 (fun i hi => Or.inr (by rw [hi]; exact Nat.le_refl _))).trans (Mod.of_bel (F := fun _ => False) B2) (fun _ q => q.elim),fun b hb => by
   rcases t2.at_ b hb with e | e
   ·exact Or.inl e
   ·exact Or.inr (Nat.le_trans HB.out.size e)⟩
  have HW2 := Lib.hid hW2
  have T3 : Hid (RTo x.g o w o2 w2) := Lib.hid ((RTo.of_bel (g := x.g) (o := o) HB.out).trans t2)
  clear r2 t2 bx2 B2 bxW bx4 m4 r4 hz4 hkb hsl2 hW2 hsz2
  cases hb : isT [59] (hd (x.at p2)) with
  | false =>
   have HX := Lib.hid (expect_no [59] _ R4.out hb)
   have Hb := Lib.hid hb
   clear hb
   go_wp2_with fail
   rw [HW2.out]
   refine HX.out.mono ?_
   intro e w5 h5
   obtain ⟨rfl,H5⟩ := Stops.from T4.out h5
   have H5c := Lib.hid H5
   clear h5 H5
   go_wp2_with fail
   rw [endR_n Hb.out]
   exact ⟨rfl,rfl,H5c.out⟩
  | true =>
   have HX := Lib.hid (expect_yes [59] _ R4.out hb)
   have Hb := Lib.hid hb
   clear hb
   go_wp2_with fail
   rw [HW2.out]
   refine HX.out.mono ?_
   rintro e w5 ⟨rfl,r5,t5⟩
   have bx5 := BX4.out.same (t5.mod.block _ BX4.out.lt (fun e => by
    rcases e with e | e
    ·omega
    ·exact (Hsl2.out _ (Or.inr rfl)).2 e))
   have z5 : ZArg w5 (some ⟨w2.heap.size,0,none⟩) 1 [(n : Int) + (size t : Int) - 1] := ⟨rfl,fun i hi => by
    obtain ⟨a,ea,ca⟩ := HZ4.out.2 i hi
    cases ea
    refine ⟨_,rfl,t5.mod.cell ca ?_⟩
    rw [add_block]
    rintro (e | e)
    ·simp only at e; omega
    ·exact Nat.lt_irrefl _ (Hkb.out _ e)⟩
   have HA := Lib.hid (add_any (⟨k,s,0,none,0,0,some ⟨w2.heap.size,0,none⟩,1,1⟩ : Nv) ⟨k,s,0,[],[(n : Int) + (size t : Int) - 1]⟩ w5 (r5.less (S' := S) (fun b hb => Or.inl hb) Hsg.out) ⟨rfl,rfl,rfl,KArg.nil _ _,z5,Nat.le_refl _,Nat.le_refl _⟩ (by
    rintro b (⟨a,e,-,-⟩ | ⟨a,e,-,rfl⟩)
    ·cases e
    ·cases e
     exact ⟨fun hs => by have := (Hsl.out _ hs).1; simp only at this; omega,fun hb => Nat.lt_irrefl _ (Hkb.out _ hb)⟩) (by omega))
   have T5 := Lib.hid (T4.out.trans t5)
   have y0 := bx5.k
   have y1 := bx5.s
   have y2 := bx5.i
   have y3 := bx5.ks
   have y4 := bx5.js
   unfold nodV at HA
   dsimp only at HA
   clear r5 t5 bx5 z5 HX d4 g4
   go_wp2_with fail
   refine HA.out.mono ?_
   rintro e w6 ⟨rfl,o6,c6,r6,t6⟩
   have R6 := Lib.hid r6
   have T6 := Lib.hid (T5.out.trans t6)
   clear r6 t6
   go_wp2_with fail
   go_ret
   rw [endR_y Hb.out,tail_at]
   refine EPost.mk (p := p) (q := q) (p' := p2 + 1) (t := .node k s 0 [] (.cons t .nil)) (o' := o6) (c' := c6) (by rw [size_one] <;> omega) ?_ T6.out (by omega) (by rw [size_one]; omega)
   rw [flat_one,size_one,← List.append_assoc,show n + (size t + 1) = n + size t + 1 by omega]
   exact R6.out

theorem assign_any {x : Cx} {S : Nat → Prop} {p : Nat} {o : Option Addr} {n c : Nat} {L : List Nd} (k : Int) (w : World) (h : RS x S p o n c L w) (q : Nat) (hq : q ≤ p) (f : Nat) (hf : 20 * (x.T.length - p) ≤ f) :
  Calls Tryz.prog 233 #[.pointer (some ⟨x.g,0,none⟩),.int .i64 k] w (EPost x S p q n o L (rdA f k (x.at p)) w) := by
 by_cases hk : (hd (x.at p)).1 = 1
 ·have HN := Lib.hid (name_yes w h hk)
  have hp := kind_lt hk (by decide)
  have hnp := h.np
  cases hb : isT [61] (hd (x.at (p + 1))) with
  | false =>
   have hz : Hid (rdA f k (x.at p) = .bad (x.at (p + 1))) := Lib.hid (by rw [rdA,if_pos hk,tail_at,if_neg (by rw [hb]; decide)])
   rw [hz.out]
   obtain ⟨s,hs⟩ : ∃ s,(hd (x.at p)).2.1 = s := ⟨_,rfl⟩
   rw [hs] at HN
   clear h hk hs
   go_enter Tryz.func233,Tryz.ntmps233
   go_wp2_with fail
   refine HN.out.mono ?_
   rintro e w1 ⟨rfl,r1,u1⟩
   have B1 := Bel.alloc (Bel.refl w1) (.cells #[.int .i64 k,.string ⟨s.toArray⟩,.int .i64 0,.slice none 0 0,.slice none 0 0] 65)
   have T1 := Lib.hid (u1.bel B1)
   have HA := Lib.hid (expect_no [61] _ (r1.on B1) hb)
   clear r1 u1 B1
   go_wp2_with fail
   refine HA.out.mono ?_
   intro e w2 h2
   obtain ⟨rfl,H2⟩ := Stops.from T1.out h2
   have H2c := Lib.hid H2
   clear h2 H2
   go_wp2_with fail
   exact ⟨rfl,rfl,H2c.out⟩
  | true =>
   have hz : Hid (rdA f k (x.at p) = endR k (hd (x.at p)).2.1 (rdE f 1 (x.at (p + 2)))) := Lib.hid (by rw [rdA,if_pos hk,tail_at,if_pos hb,tail_at,rdN_end])
   rw [hz.out]
   obtain ⟨s,hs⟩ : ∃ s,(hd (x.at p)).2.1 = s := ⟨_,rfl⟩
   rw [hs] at HN ⊢
   have hp2 := isT_lt hb
   obtain ⟨X,hX⟩ : ∃ X,endR k s (rdE f 1 (x.at (p + 2))) = X := ⟨_,rfl⟩
   have HX := Lib.hid hX
   rw [hX]
   clear h hk hs hz hX
   go_enter Tryz.func233,Tryz.ntmps233
   go_wp2_with fail
   refine HN.out.mono ?_
   rintro e w1 ⟨rfl,r1,u1⟩
   have B1 := Bel.alloc (Bel.refl w1) (.cells #[.int .i64 k,.string ⟨s.toArray⟩,.int .i64 0,.slice none 0 0,.slice none 0 0] 65)
   have T1 := Lib.hid (u1.bel B1)
   have HA := Lib.hid (expect_yes [61] _ (r1.on B1) hb)
   have hbox := box5 w1 (.int .i64 k) (.string ⟨s.toArray⟩) (.int .i64 0) (.slice none 0 0) (.slice none 0 0) 65
   have hrb := fun b (hb : Blk o b) => (r1.own.blk hb).2
   have hg1 : x.g < w1.heap.size := cell_lt' r1.nod
   clear r1 u1 B1
   go_wp2_with fail
   refine HA.out.mono ?_
   rintro e w2 ⟨rfl,r2,u2⟩
   have T2 := Lib.hid (T1.out.trans u2)
   have hnF : ¬ (w1.heap.size = x.g ∨ Blk o w1.heap.size) := fun q => by
    rcases q with q | q
    ·omega
    ·exact Nat.lt_irrefl _ (hrb _ q)
   have y0 := u2.mod.cell hbox.1 hnF
   have y1 := u2.mod.cell hbox.2.1 hnF
   have y2 := u2.mod.cell hbox.2.2.1 hnF
   have y3 := u2.mod.cell hbox.2.2.2.1 hnF
   have y4 := u2.mod.cell hbox.2.2.2.2 hnF
   have HG := ending_any k s w2 r2 q (by omega) f (by omega)
   rw [HX.out] at HG
   have HG' := Lib.hid HG
   clear r2 u2 hbox hrb HG
   go_wp2_with fail
   refine HG'.out.mono ?_
   intro e w3 h3
   have h4 := EPost.from T2.out h3
   clear h3 y0 y1 y2 y3 y4
   cases X with
   | bad r =>
    obtain ⟨rfl,H4⟩ := h4
    have H4c := Lib.hid H4
    clear H4
    go_wp2_with fail
    exact ⟨rfl,rfl,H4c.out⟩
   | ok t r =>
    obtain ⟨rfl,p4,o4,c4,r4,t4,rfl,hp4,hs4⟩ := h4
    have R4 := Lib.hid r4
    have T4 := Lib.hid t4
    clear r4 t4
    go_wp2_with fail
    go_ret
    exact EPost.mk rfl R4.out T4.out (by omega) hs4
 ·have HN := Lib.hid (name_no w h hk)
  have hz : Hid (rdA f k (x.at p) = .bad (x.at p)) := Lib.hid (by rw [rdA,if_neg hk])
  rw [hz.out]
  clear h hk hz
  go_enter Tryz.func233,Tryz.ntmps233
  go_wp2_with fail
  refine HN.out.mono ?_
  rintro e w1 ⟨rfl,H1⟩
  have H1c := Lib.hid H1
  clear H1
  go_wp2_with fail
  exact ⟨rfl,rfl,H1c.out⟩
theorem seesA_any {x : Cx} {p : Nat} (w : World) (h : TS x p w) :
  Calls Tryz.prog 234 #[.pointer (some ⟨x.g,0,none⟩)] w fun e w' => e = .returned (.bool (setB (x.at p))) ∧ w' = w := by
 obtain ⟨m,d,c0,e1,e2,e3⟩ := h.tok
 obtain ⟨t0,t1,t2,t3⟩ := h.tks p h.pos
 have hN := fun hp : p + 1 ≤ x.T.length => h.tks (p + 1) hp
 unfold setB
 rw [tail_at,hd_at,hd_at]
 have hk := fun hk : (x.tok p).1.1 = 1 => kind_lt (x := x) (p := p) (k := 1) (by rw [hd_at]; exact hk) (by decide)
 generalize x.tok p = t at *
 generalize x.tok (p + 1) = u at *
 obtain ⟨⟨tk,tx,ti⟩,ta⟩ := t
 obtain ⟨⟨uk,ux,ui⟩,ua⟩ := u
 dsimp only at t0 t1 t2 t3 hk hN ⊢
 clear h
 by_cases h1 : tk = 1
 ·subst h1
  have hp := hk rfl
  obtain ⟨v0,v1,v2,v3⟩ := hN hp
  dsimp only at v0 v1
  rw [show (p + 1) * 4 = p * 4 + 4 by omega] at v0 v1
  obtain ⟨m,rfl⟩ : ∃ m',m = m' + 1 := ⟨m - 1,by omega⟩
  obtain ⟨d,rfl⟩ : ∃ d',d = d' + 1 := ⟨d - 1,by omega⟩
  clear hN hk e1 e2 e3 v2 v3 hp
  generalize p * 4 = q at *
  by_cases h5 : uk = 5
  ·subst h5
   go_enter Tryz.func234,Tryz.ntmps234
   go_wp2
   go_ret
   exact ⟨by simp,rfl⟩
  ·have b5 : (uk == 5) = false := by simpa using h5
   go_enter Tryz.func234,Tryz.ntmps234
   go_wp2
   go_ret
   exact ⟨by simp [b5],rfl⟩
 ·have b1 : (tk == 1) = false := by simpa using h1
  clear hN hk e1 e2 e3
  generalize p * 4 = q at *
  go_enter Tryz.func234,Tryz.ntmps234
  go_wp2
  go_ret
  exact ⟨by simp [b1],rfl⟩

theorem gs_new0 {x : Cx} {S : Nat → Prop} {p : Nat} {o : Option Addr} {n c : Nat} {L : List Nd} {w : World} (h : RS x S p o n c L w) (k : Int) (s : Txt) (i : Int) (bn : Nat) (hb : w.heap.size ≤ bn) (W : World) (B : Bel w W) (hbx : NBox W bn k s i (.slice none 0 0) (.slice none 0 0)) :
  (⟨false,S,p,n,o,L,w,bn,bn,W.heap.size,k,s,i⟩ : Bx).Ok x ∧ GS x ⟨false,S,p,n,o,L,w,bn,bn,W.heap.size,k,s,i⟩ [] .nil p o c none 0 none 0 W := by
 have l1 := hbx.lt
 refine ⟨⟨fun e => (by cases e),B.size,⟨hb,hb⟩,h.lt,h.sg,fun b hb => (h.sl b hb).1⟩,⟨?_,RTo.of_bel B,hbx,fun e => (by cases e),World.ownsRow_nil _ _ _ _,World.ownsRow_nil _ _ _ _,fun b ⟨_,q⟩ => (by cases q),(by show sizes .nil + p ≤ p; rw [sizes]; omega),Nat.le_refl _,fun b q => (by rcases q with ⟨_,q⟩ | ⟨_,q⟩ <;> cases q),l1⟩⟩
 show RS x _ p o (n + sizes .nil) c (L ++ flats n .nil) W
 rw [sizes,flats,List.append_nil,Nat.add_zero]
 refine h.wide B (fun q hq => ?_) (fun q hq => ?_) (Or.inl h.sg)
 ·rcases hq with q1 | rfl | rfl | ⟨_,q1⟩ | ⟨_,q1⟩
  ·exact Or.inl q1
  ·exact Or.inr hb
  ·exact Or.inr hb
  ·cases q1
  ·cases q1
 ·rcases hq with q1 | rfl | rfl | ⟨_,q1⟩ | ⟨_,q1⟩
  ·exact Nat.lt_of_lt_of_le (h.sl q q1).1 B.size
  ·exact l1
  ·exact l1
  ·cases q1
  ·cases q1
theorem GS.later {x : Cx} {r : Bool} {S : Nat → Prop} {p0 p : Nat} {n : Nat} {o0 : Option Addr} {L : List Nd} {w0 : World} {bn rb kb : Nat} {k : Int} {s : Txt} {i : Int} {ks : List Txt} {o : Option Addr} {c : Nat} {qo : Option Addr} {qc : Nat} {ko : Option Addr} {kc : Nat} {w : World} (h : GS x ⟨r,S,p0,n,o0,L,w0,bn,rb,kb,k,s,i⟩ ks .nil p o c qo qc ko kc w) : GS x ⟨r,S,p,n,o0,L,w0,bn,rb,kb,k,s,i⟩ ks .nil p o c qo qc ko kc w :=
 ⟨h.rs,h.go,h.box,h.ptr,h.keys,h.kids,h.apart,by show sizes .nil + p ≤ p; rw [sizes]; omega,h.kb,h.nb,h.rl⟩
theorem rdZ_end {f : Nat} {a : Ts} {r : List Ck} (h : isT [125] (hd r) = true) : rdZ (f + 1) a r = .ok (.node 19 [] 0 [] a) r.tail := by rw [rdZ,if_pos h]
theorem rdZ_go {f : Nat} {a : Ts} {t : T} {r r' : List Ck} (h : isT [125] (hd r) = false) (hg : rdS f r = .ok t r') : rdZ (f + 1) a r = rdZ f (snoc a t) r' := by rw [rdZ,if_neg (by rw [h]; decide),hg]
theorem rdZ_bad {f : Nat} {a : Ts} {r r' : List Ck} (h : isT [125] (hd r) = false) (hg : rdS f r = .bad r') : rdZ (f + 1) a r = .bad r' := by rw [rdZ,if_neg (by rw [h]; decide),hg]
theorem block_any {x : Cx} {p : Nat} (hS : ∀ p',p < p' → Rf x 180 rdS 12 p') : Rf x 125 rdB 1 p := by
 intro f hf S o n c L w h
 obtain ⟨f,rfl⟩ : ∃ g,f = g + 1 := ⟨f - 1,by omega⟩
 have hnp := h.np
 obtain ⟨W,hW⟩ : ∃ W,w.alloc (.cells #[.int .i64 19,.string ⟨#[]⟩,.int .i64 0,.slice none 0 0,.slice none 0 0] 65) = W := ⟨_,rfl⟩
 have B : Bel w W := by rw [← hW]; exact Bel.alloc (Bel.refl w) _
 have hb5 : NBox W w.heap.size 19 [] 0 (.slice none 0 0) (.slice none 0 0) := by
  rw [← hW]
  obtain ⟨y0,y1,y2,y3,y4⟩ := box5 w (.int .i64 19) (.string ⟨#[]⟩) (.int .i64 0) (.slice none 0 0) (.slice none 0 0) 65
  exact ⟨y0,y1,y2,y3,y4,fun j => World.frozen?_alloc_new _ _ _ _⟩
 obtain ⟨ok0,g0⟩ := gs_new0 h 19 [] 0 w.heap.size (Nat.le_refl _) W B hb5
 have Hw := Lib.hid hW
 have hRW := g0.rs
 simp only [sizes,flats,List.append_nil,Nat.add_zero] at hRW
 cases hb : isT [123] (hd (x.at p)) with
 | false =>
  have HE := Lib.hid ((expect_no [123] W hRW hb).mono fun e w' (k : Stops x o W e w' (x.at p)) => Stops.from (RTo.of_bel B) k)
  have hz : Hid (rdB (f + 1) (x.at p) = .bad (x.at p)) := Lib.hid (by rw [rdB,if_neg (by rw [hb]; decide)])
  rw [hz.out]
  clear h hb hb5 g0 ok0 hRW B hW hz hS
  go_enter Tryz.func125,Tryz.ntmps125
  go_wp2_with fail
  rw [Hw.out]
  refine HE.out.mono ?_
  rintro e w2 ⟨rfl,H2⟩
  have H2c := Lib.hid H2
  clear H2
  go_wp2_with fail
  exact ⟨rfl,rfl,H2c.out⟩
 | true =>
  have hlt0 := isT_lt hb
  have HE := Lib.hid (expect_yes [123] W hRW hb)
  have hz : Hid (rdB (f + 1) (x.at p) = rdZ f .nil (x.at (p + 1))) := Lib.hid (by rw [rdB,if_pos hb,tail_at])
  rw [hz.out]
  obtain ⟨X,hX⟩ : ∃ X,rdZ f .nil (x.at (p + 1)) = X := ⟨_,rfl⟩
  have HX := Lib.hid hX
  rw [hX]
  have G0 := Lib.hid g0
  have OK0 := Lib.hid ok0
  have HSt := Lib.hid hS
  clear h hb hb5 g0 ok0 hRW B hW hz hS hX
  go_enter Tryz.func125,Tryz.ntmps125
  go_wp2_with fail
  rw [Hw.out]
  refine HE.out.mono ?_
  rintro e w2 ⟨rfl,r2,u2⟩
  have g2 := (G0.out.step OK0.out u2 (by simpa [sizes,flats] using r2) (Nat.le_succ p)).later
  obtain ⟨y,hy⟩ : ∃ y : Bx,(⟨false,S,p + 1,n,o,L,w,w.heap.size,w.heap.size,W.heap.size,19,[],0⟩ : Bx) = y := ⟨_,rfl⟩
  have ok : y.Ok x := by rw [← hy]; exact ⟨OK0.out.ne,OK0.out.kb,OK0.out.ge,OK0.out.xb,OK0.out.sg,OK0.out.sl⟩
  rw [hy] at g2
  have G2 := Lib.hid (show GSt x y [] .nil (p + 1) w2 from ⟨_,_,_,_,_,_,g2⟩)
  have OK := Lib.hid ok
  have ybn : Hid (y.bn = w.heap.size) := Lib.hid (by rw [← hy])
  have ypos : Hid (y.p = p + 1) := Lib.hid (by rw [← hy])
  have ynn : Hid (y.n = n) := Lib.hid (by rw [← hy])
  have HY := Lib.hid hy
  clear r2 u2 g2 G0 OK0 HE hy ok
  go_wp2_with fail
  go_loopw [] (fun wr => ∃ (a : Ts) (p' f' : Nat),Hid (GSt x y [] a p' wr) ∧ Hid (rdZ f' a (x.at p') = X) ∧ 20 * (x.T.length - p') + 13 ≤ f' ∧ p < p') (fun wr => left? x wr)
  case atStart => exact ⟨.nil,p + 1,f,G2,HX,by omega,by omega⟩
  case round =>
   obtain ⟨a,p',f',HG,HM,hf1,hpp⟩ := hrel
   rename World => wr
   clear G2 HX
   obtain ⟨o1,c1,qo,qc,ko,kc,g1⟩ := HG.out
   obtain ⟨f',rfl⟩ : ∃ g,f' = g + 1 := ⟨f' - 1,by omega⟩
   have hpos := g1.rs.ts.pos
   rw [left_is g1.rs.ts]
   cases h125 : isT [125] (hd (x.at p')) with
   | true =>
    have HA := Lib.hid (accept_yes [125] wr g1.rs h125)
    have hz2 : Hid (X = .ok (.node 19 [] 0 [] a) (x.at (p' + 1))) := Lib.hid (by rw [← HM.out,rdZ_end h125,tail_at])
    have Hg := Lib.hid g1
    clear g1 h125 HG HM
    go_wp2_with fail
    refine HA.out.mono ?_
    rintro e w3 ⟨rfl,r3,u3⟩
    have g3 := Hg.out.step OK.out u3 r3 (Nat.le_succ _)
    have HF := Lib.hid (fin_any w3 g3 OK.out (by rw [ynn.out,ypos.out]; omega))
    have e1 := g3.box.k
    have e2 := g3.box.s
    have e3 := g3.box.i
    have e4 := g3.box.ks
    have e5 := g3.box.js
    have hsz := g3.sz
    have hyy := HY.out
    subst hyy
    dsimp only at e1 e2 e3 e4 e5 hsz HF
    simp only [List.length_nil] at e4 HF
    clear g3 r3 u3 Hg HA
    go_wp2_with fail
    refine HF.out.mono ?_
    rintro e w4 ⟨rfl,o4,c4,r4,u4⟩
    have R4 := Lib.hid r4
    have T4 := Lib.hid u4
    clear r4 u4
    go_wp2_with fail
    go_ret
    rw [hz2.out]
    exact EPost.mk (p := p) (q := p) (p' := p' + 1) (t := .node 19 [] 0 [] a) (o' := o4) (c' := c4) (by rw [size] <;> omega) R4.out T4.out (by omega) (by rw [size]; omega)
   | false =>
    have HA := Lib.hid (accept_no [125] wr g1.rs h125)
    have Hg := Lib.hid g1
    have H125 := Lib.hid h125
    clear g1 h125 HG
    go_wp2_with fail
    refine HA.out.mono ?_
    rintro e w3 ⟨rfl,r3,u3⟩
    have g3 := Hg.out.step OK.out u3 r3 (Nat.le_refl _)
    have d4 := g3.box.js
    have f4 := g3.box.fz 4
    have hbn : y.bn < w3.heap.size := g3.box.lt
    rw [ybn.out] at d4 f4 hbn
    have ok := OK.out
    have hE := HSt.out p' (by omega) f' (by omega)
    clear r3 u3 HA Hg
    cases hg : rdS f' (x.at p') with
    | bad r =>
     have HC2 := Lib.hid (kid_bad ok g3 hE hg)
     have hz2 : Hid (X = .bad r) := Lib.hid (by rw [← HM.out,rdZ_bad H125.out hg])
     have hyo : Hid (y.o = o ∧ y.w = w) := Lib.hid (by rw [← HY.out]; exact ⟨rfl,rfl⟩)
     clear g3 ok hE hg
     go_upto_region 4 with (fail)
     refine wp_region_held_drew (S := fun W => W.cell? ⟨w.heap.size,4,none⟩ = some (.slice ko (count a) kc)) (by kernel_rfl) d4 (fun hH => ?_)
     refine wpAnyH_take (i := 0) (v := ?_) rfl (by kernel_rfl) (by kernel_rfl) (by kernel_rfl) (fun _ _ _ h => h) (Or.inl ⟨by rfl,?_⟩) (by assumption) ?_
     rotate_left 1
     ·intro w hSw
      go_simp
      with_reducible rfl
     refine wpAnyH_take (i := 1) (v := ?_) rfl (by kernel_rfl) (by kernel_rfl) (by kernel_rfl) (fun _ _ _ h => h) (Or.inl ⟨by rfl,?_⟩) (by assumption) ?_
     rotate_left 1
     ·intro w hSw
      have q := hSw
      go_simp
      with_reducible rfl
     refine wpAnyH_take (i := 2) (v := ?_) rfl (by kernel_rfl) (by kernel_rfl) (by kernel_rfl) (fun _ _ _ h => h) (Or.inl ⟨by rfl,?_⟩) (by assumption) ?_
     rotate_left 1
     ·intro w hSw
      go_simp
      with_reducible rfl
     refine wpAnyH_ready (rs := [3]) (by kernel_rfl) (by simp) ?_
     refine AllReadyH.cons rfl (fun K hK => ?_) AllReadyH.nil
     go_simp
     refine HC2.out.mono ?_
     rintro e w9 ⟨rfl,hS⟩
     have hS2 := hS.out
     unfold GPn at hS2
     rw [hyo.out.1,hyo.out.2] at hS2
     refine ⟨rfl,?_⟩
     show EPost x S p p n o L X w _ w9
     rw [hz2.out]
     exact hS2
    | ok t r =>
     obtain ⟨i0,hi0,hz0,hz1,hz2⟩ := info_parts info_int
     have Hi0 := Lib.hid hi0
     have Hz0 := Lib.hid hz0
     have Hz1 := Lib.hid hz1
     have Hz2 := Lib.hid hz2
     have hsm : count a ≤ 1000 := by have := sizes_le a; have := g3.rs.np; have := g3.rs.ts.pos; have := g3.rs.ts.len; omega
     have HC2 := Lib.hid (kid_ok ok g3 hE hg)
     unfold KidOk at HC2
     rw [ybn.out] at HC2
     have hM2 : Hid (rdZ f' (snoc a t) r = X) := Lib.hid (by rw [← HM.out,rdZ_go H125.out hg])
     have hml : Hid (count a + 1 ≤ maxLen) := Lib.hid (by unfold maxLen; omega)
     have hml2 : Hid ((count a + 1) * 8 ≤ 140737488355328) := Lib.hid (by omega)
     have hnw : Hid (∀ W' W'' : World,W''.heap[W'.heap.size]? = some (.cells #[.int .i64 ((y.n : Int) + (sizes a : Int) + (size t : Int) - 1)] 3) → ∀ j u,[.int .i64 ((y.n : Int) + (sizes a : Int) + (size t : Int) - 1)][j]? = some u → W''.cell? ((⟨W'.heap.size,0,none⟩ : Addr).add j) = some u) := Lib.hid fun W' W'' hW' => World.news_of_block (cs := #[.int .i64 ((y.n : Int) + (sizes a : Int) + (size t : Int) - 1)]) (t := 3) (fr := (0,0)) hW'
     clear hE hg g3 ok HM
     go_upto_region 4 with (fail)
     go_region_law (first | (refine step_append_lies _ (by rfl) _ _ _ (by rfl) y.kb 3 i0 _ 1 8 Tryz.underlying38 Hi0.out Hz0.out Hz1.out Hz2.out rfl (by omega) _ _ _ (by rfl) (hK1.out _ (by repeat (first | exact Bel.refl _ | refine Below.drew ?_ | refine Bel.alloc ?_ _))).1 ⟨w9.heap.size,0,none⟩ 1 1 [.int .i64 ((y.n : Int) + (sizes a : Int) + (size t : Int) - 1)] (by rfl) (by rfl) (hnw.out w9 _ (heap_new w9 _)) (by simp [Value.oneCell']) (by omega) hml.out hml2.out (hK1.out _ (by repeat (first | exact Bel.refl _ | refine Below.drew ?_ | refine Bel.alloc ?_ _))).2 _ rfl ?_; intro gg cap w8 hown3 hgrow hat hlt; obtain ⟨d5,g5⟩ := hK2.out _ w8 (by repeat (first | exact Bel.refl _ | refine Below.drew ?_ | refine Bel.alloc ?_ _)) hgrow) | (go_simp; go_at_call 180; (with_reducible refine HC2.out.mono ?_); rintro e w9 ⟨rfl,d6,g6,_,hb2,hK1,hK2,hK3⟩))
     all_goals
      obtain ⟨p1,k1,k2,k3⟩ := hK3.out _ w8 gg cap (by repeat (first | exact Bel.refl _ | refine Below.drew ?_ | refine Bel.alloc ?_ _)) hown3 hgrow hat
      subst k2
      have K1 := Lib.hid k1
      obtain ⟨_,_,_,_,_,_,q⟩ := k1
      have hq := q.rs.ts.pos
      have ml := Lib.hid (left_is q.rs.ts)
      clear q
      go_wp2_with fail
      go_round
      case rel => exact ⟨snoc a t,p1,f',K1,hM2,by omega,by omega⟩
      case measure => rw [ml.out]; omega
end Syn
end Go.Proofs.YtcapkeaedpabjaaGreatDoor
