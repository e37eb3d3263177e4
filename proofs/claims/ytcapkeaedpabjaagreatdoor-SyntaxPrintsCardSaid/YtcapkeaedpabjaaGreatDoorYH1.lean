/-
  Layer 8, texts merged: SpA, SpB, SpC. For every argument within the bounds that each theorem names.
-/
import Derived.Test.YtcapkeaedpabjaaGreatDoorYG6
import Derived.Test.YtcapkeaedpabjaaGreatDoorYE1
set_option maxRecDepth 100000
set_option maxHeartbeats 16000000

/-
 Layer 8: the texts of expressions, as the program writes them.
-/
namespace Go.Proofs.YtcapkeaedpabjaaGreatDoor
open Go.RowKit Go.ChangeShapes Go.WideShapes
namespace Syn

theorem lit_txt {t : T} {k : Int} {s : Txt} {i : Int} (hk : k < 6) (h : GE t) (e : t = leaf k s i) : litT k s i = txt (itE t) := by
 cases h with
 | null => cases e; rw [itE_null]; rfl
 | bool j hj => cases e; rw [itE_bool]; rcases hj with rfl | rfl <;> rfl
 | int j hj =>
  cases e
  rw [itE_int,txt_tok,txt_nil,List.append_nil]
  show Lex.txtT ⟨3,[],i,0⟩ = _
  exact (Lex.txt_yes hj).1
 | str s' hs =>
  cases e
  rw [itE_str,txt_tok,txt_nil,List.append_nil]
  show Lex.txtT ⟨4,s,0,0⟩ = _
  exact (Lex.txt_yes hs).1
 | var s' hs => cases e; rw [itE_var,txt_n,txt_nil,List.append_nil]; rfl
 | list ts h => cases e; exact absurd hk (by decide)
 | map keys ts hl ha h => cases e; exact absurd hk (by decide)
 | una s' a hs h => cases e
 | bin s' a b hs h1 h2 => cases e
 | idx a b h1 h2 => cases e
 | call s' ts hs h => cases e; exact absurd hk (by decide)
 | host s' ts hs h => cases e; exact absurd hk (by decide)
theorem brk_txt (t : T) (req : Nat) : brk (decide (lvT t < req)) (txt (itE t)) = txt (opd req t) := by
 unfold brk
 by_cases h : lvT t < req
 ·rw [decide_eq_true h,if_pos rfl,opd_low h,txt_app]
  rfl
 ·rw [decide_eq_false h,opd_high h]
  rfl
theorem join_row : ∀ (l : List (List It)),Lib.join (l.map txt) [44,32] = txt (sep l)
 | [] => rfl
 | [a] => Lib.join_one _ _
 | a :: b :: r => by
  have ih := join_row (b :: r)
  rw [List.map_cons,Lib.join_cons] at ih
  rw [sep_cons,txt_app,txt_s,txt_sp,← ih]
  show Lib.join (txt a :: txt b :: r.map txt) [44,32] = _
  rw [Lib.join_cons]
  simp [Lib.joinTail]
theorem zip_keyed : ∀ (ts : Ts) (keys : List Txt) (p : Option Txt),ascB p keys = true → keys.length = count ts → zipK keys ((row ts).map txt) = (keyed keys (row ts)).map txt
 | .nil,[],p,ha,hl => by rw [row_nil]; rfl
 | .cons t r,k :: keys,p,ha,hl => by
  have ih := zip_keyed r keys (some k) (asc_str ha).2 (by simpa [count] using hl)
  unfold zipK at ih ⊢
  rw [keyed_cons,row_cons,List.map_cons,List.map_cons,List.zipWith_cons_cons,ih]
  congr 1
  rw [txt_tok,txt_s,txt_sp]
  rw [show keyT k = Lex.wrt (tk (4,k,0)) from (Lex.txt_yes (asc_str ha).1).1]
  rfl
 | .nil,_ :: _,p,ha,hl => by cases hl
 | .cons _ _,[],p,ha,hl => by cases hl
def PE (L : List Nd) (no : Option Addr) (n nc : Nat) (t : T) : Prop := ∀ (z : Nat),At L z t → ∀ (req : Nat) (W : World),NArg W no n L → Lex.ML W →
 Calls Tryz.prog 152 #[.slice no n nc,.int .i64 (z : Int),.int .i64 (req : Int)] W fun e w' => e = .returned (.string ⟨(txt (opd req t)).toArray⟩) ∧ Bel W w'
theorem pe_of {L : List Nd} {no : Option Addr} {n nc : Nat} {k : Int} {s : Txt} {i : Int} {keys : List Txt} {ts : Ts} (hlen : (txt (itE (.node k s i keys ts))).length ≤ 1000000000)
  (hb : ∀ kids,Ats L kids ts → ∀ (v : Nv) (W0 : World),NFit W0 v ⟨k,s,i,keys,kids⟩ → NArg W0 no n L → Lex.ML W0 → ∀ W,Bel W0 W → Calls Tryz.prog 202 #[.slice no n nc,nodV v] W fun e w' => e = .returned (.string ⟨(txt (itE (.node k s i keys ts))).toArray⟩) ∧ Bel W w') : PE L no n nc (.node k s i keys ts) := by
 intro z hz req W hA hm
 unfold At at hz
 obtain ⟨kids,hz,hk⟩ := hz
 obtain ⟨hzl,hze⟩ := List.getElem?_eq_some_iff.1 hz
 have := exp_any no n nc z L ⟨k,s,i,keys,kids⟩ (txt (itE (.node k s i keys ts))) hlen hzl hze req W hA (fun v hv W' g => hb kids hk v W hv hA hm W' g)
 rw [← brk_txt]
 exact this
def AllP (L : List Nd) (no : Option Addr) (n nc : Nat) : Ts → Prop
 | .nil => True
 | .cons t r => PE L no n nc t ∧ AllP L no n nc r
theorem all_at {L : List Nd} {no : Option Addr} {n nc : Nat} : ∀ {ts : Ts} {kids : List Int},AllP L no n nc ts → Ats L kids ts → ∀ j (h : j < kids.length) (h' : j < ((row ts).map txt).length) (W : World),NArg W no n L → Lex.ML W →
  Calls Tryz.prog 152 #[.slice no n nc,.int .i64 kids[j],.int .i64 1] W fun e w' => e = .returned (.string ⟨((row ts).map txt)[j].toArray⟩) ∧ Bel W w'
 | .nil,kids,_,ha,j,h,h',W,hA,hm => by
  rw [Ats] at ha
  subst ha
  exact absurd h (Nat.not_lt_zero _)
 | .cons t r,kids,hp,ha,j,h,h',W,hA,hm => by
  rw [Ats] at ha
  rw [AllP] at hp
  obtain ⟨z,l,rfl,h1,h2⟩ := ha
  have e : (row (.cons t r)).map txt = txt (opd 1 t) :: (row r).map txt := by rw [row_cons,List.map_cons]
  match j,h with
  | 0,_ =>
   have := hp.1 z h1 1 W hA hm
   simp only [e,List.getElem_cons_zero]
   exact this
  | j + 1,h =>
   have := all_at hp.2 h2 j (by simpa using h) (by rw [e] at h'; simpa using h') W hA hm
   simp only [e,List.getElem_cons_succ]
   exact this
theorem row_count : ∀ ts : Ts,(row ts).length = count ts
 | .nil => by rw [row_nil]; rfl
 | .cons t r => by rw [row_cons,List.length_cons,row_count r,count]
theorem mem_row_len : ∀ {ts : Ts},GEs ts → sizes ts ≤ 1000 → ∀ x ∈ (row ts).map txt,x.length ≤ 1000000000
 | .nil,_,_,x,hx => by rw [row_nil] at hx; cases hx
 | .cons t r,h,hs,x,hx => by
  rw [sizes] at hs
  rw [row_cons,List.map_cons] at hx
  cases h with
  | cons _ _ h hr =>
   rcases List.mem_cons.1 hx with rfl | hx
   ·have := len_oE h 1
    omega
   ·exact mem_row_len hr (by omega) x hx
theorem leaf_len {t : T} (h : (txt (itE t)).length + 410 ≤ 1000 * size t) (hs : size t ≤ 1000) : (txt (itE t)).length ≤ 1000000000 := by omega
mutual
theorem pE {L : List Nd} {no : Option Addr} {n nc : Nat} : ∀ {t : T},GE t → size t ≤ 1000 → PE L no n nc t
 | _,.null,hs => pe_of (leaf_len (len_E .null) hs) fun kids hk v W0 hv hA hm W g => by
  obtain ⟨k',s',i',ko,kn,kc,jo,jn,jc⟩ := v
  obtain rfl : k' = 1 := hv.k
  obtain rfl : s' = [] := hv.s
  obtain rfl : i' = 0 := hv.i
  have := bareLit_any no n nc 1 (Or.inl (by decide)) [] 0 (by decide) ko jo kn kc jn jc W (hm.on g)
  rw [lit_txt (by decide) .null rfl] at this
  exact this
 | _,.bool i h,hs => pe_of (leaf_len (len_E (.bool i h)) hs) fun kids hk v W0 hv hA hm W g => by
  obtain ⟨k',s',i',ko,kn,kc,jo,jn,jc⟩ := v
  obtain rfl : k' = 2 := hv.k
  obtain rfl : s' = [] := hv.s
  obtain rfl : i' = i := hv.i
  have := bareLit_any no n nc 2 (Or.inl (by decide)) [] i' (by omega) ko jo kn kc jn jc W (hm.on g)
  rw [lit_txt (by decide) (.bool i' h) rfl] at this
  exact this
 | _,.int i h,hs => pe_of (leaf_len (len_E (.int i h)) hs) fun kids hk v W0 hv hA hm W g => by
  obtain ⟨k',s',i',ko,kn,kc,jo,jn,jc⟩ := v
  obtain rfl : k' = 3 := hv.k
  obtain rfl : s' = [] := hv.s
  obtain rfl : i' = i := hv.i
  have hi : 0 ≤ i' ∧ i' ≤ 1000000000000 := by
   unfold intB tkn Lex.okT at h
   simpa using h
  have := bareLit_any no n nc 3 (Or.inl (by decide)) [] i' (by omega) ko jo kn kc jn jc W (hm.on g)
  rw [lit_txt (by decide) (.int i' h) rfl] at this
  exact this
 | _,.str s h,hs => pe_of (leaf_len (len_E (.str s h)) hs) fun kids hk v W0 hv hA hm W g => by
  obtain ⟨k',s',i',ko,kn,kc,jo,jn,jc⟩ := v
  obtain rfl : k' = 4 := hv.k
  obtain rfl : s' = s := hv.s
  obtain rfl : i' = 0 := hv.i
  have := bareLit_any no n nc 4 (Or.inl (by decide)) s' 0 (by decide) ko jo kn kc jn jc W (hm.on g)
  rw [lit_txt (by decide) (.str s' h) rfl] at this
  exact this
 | _,.var s h,hs => pe_of (leaf_len (len_E (.var s h)) hs) fun kids hk v W0 hv hA hm W g => by
  obtain ⟨k',s',i',ko,kn,kc,jo,jn,jc⟩ := v
  obtain rfl : k' = 5 := hv.k
  obtain rfl : s' = s := hv.s
  obtain rfl : i' = 0 := hv.i
  have := bareLit_any no n nc 5 (Or.inl (by decide)) s' 0 (by decide) ko jo kn kc jn jc W (hm.on g)
  rw [lit_txt (by decide) (.var s' h) rfl] at this
  exact this
 | _,.list ts h,hs => by
  rw [size] at hs
  have hl := row_len (len_Es h)
  have hc := sizes_le ts
  have hp := pEs (L := L) (no := no) (n := n) (nc := nc) h (by omega)
  refine pe_of (by have := len_E (.list ts h); rw [size] at this; omega) fun kids hk v W0 hv hA hm W g => ?_
  obtain ⟨k',s',i',ko,kn,kc,jo,jn,jc⟩ := v
  obtain rfl : k' = 6 := hv.k
  obtain rfl : s' = [] := hv.s
  obtain rfl : i' = 0 := hv.i
  have hkl := ats_len hk
  have hjn : kids.length = jn := hv.kids.1
  have hL := fun W1 (B : Bel W W1) => list_any no n nc 6 (by decide) [] 0 ko jo kn kc jn jc (by omega) kids ((row ts).map txt) (by rw [List.length_map,row_count]; omega) W1 (hv.kids.on (Bel.trans g B)) (fun j h1 h2 W2 B2 => all_at hp hk j h1 h2 W2 (hA.on (Bel.trans (Bel.trans g B) B2)) (hm.on (Bel.trans (Bel.trans g B) B2))) (by rw [join_row]; omega)
  rw [join_row] at hL
  have := bareSq_any no n nc [] 0 ko jo kn kc jn jc (txt (sep (row ts))) (by omega) W hL
  rw [itE_list,txt_app]
  exact this
 | _,.map keys ts hlk ha h,hs => by
  rw [size] at hs
  have hl := keyed_len (len_Es h) keys none ha
  have hc := sizes_le ts
  have hp := pEs (L := L) (no := no) (n := n) (nc := nc) h (by omega)
  refine pe_of (by have := len_E (.map keys ts hlk ha h); rw [size] at this; omega) fun kids hk v W0 hv hA hm W g => ?_
  have hsk := hv.skeys
  obtain ⟨k',s',i',ko,kn,kc,jo,jn,jc⟩ := v
  obtain rfl : k' = 7 := hv.k
  obtain rfl : s' = [] := hv.s
  obtain rfl : i' = 0 := hv.i
  have hkl := ats_len hk
  have hjn : kids.length = jn := hv.kids.1
  have hkn : keys.length = kn := hsk.1
  obtain rfl : kn = jn := by omega
  have hL := fun W1 (B : Bel W W1) => listM_any no n nc [] 0 ko jo kc kn jc (by omega) kids keys ((row ts).map txt) (by rw [List.length_map,row_count]; omega) (mem_row_len h (by omega)) W1 (hm.on (Bel.trans g B)) (hv.kids.on (Bel.trans g B)) (hsk.on (Bel.trans g B)) (fun j h1 h2 W2 B2 => all_at hp hk j h1 h2 W2 (hA.on (Bel.trans (Bel.trans g B) B2)) (hm.on (Bel.trans (Bel.trans g B) B2))) (by rw [zip_keyed ts keys none ha hlk,join_row]; omega)
  rw [zip_keyed ts keys none ha hlk,join_row] at hL
  have := bareCu_any no n nc [] 0 ko jo kn kc kn jc (txt (sep (keyed keys (row ts)))) (by omega) W hL
  rw [itE_map,txt_app]
  exact this
 | _,.una s a hsv h,hs => by
  unfold una at *
  rw [size,sizes,sizes] at hs
  have hp := pE (L := L) (no := no) (n := n) (nc := nc) h (by omega)
  have hla := len_oE h (unaL s)
  have hg : GE (una s a) := .una s a hsv h
  refine pe_of (by have := len_E hg; unfold una at this; rw [size,sizes,sizes] at this; omega) fun kids hk v W0 hv hA hm W g => ?_
  rw [Ats] at hk
  obtain ⟨z,l,rfl,hz,hl⟩ := hk
  rw [Ats] at hl
  subst hl
  obtain ⟨k',s',i',ko,kn,kc,jo,jn,jc⟩ := v
  obtain rfl : k' = 8 := hv.k
  obtain rfl : s' = s := hv.s
  obtain rfl : i' = 0 := hv.i
  have hjn : 1 = jn := hv.kids.1
  obtain ⟨b,off,rfl,hc⟩ := za_addr hv.kids (show 0 < jn by omega)
  have c0 := hc 0 (by simp)
  have hu := fun W1 (B : Bel W W1) => una_any no n nc z 8 s' 0 ko kn kc jn jc b off (by omega) (txt (opd (unaL s') a)) (by omega) W1 ((Bel.trans g B).cell' c0) (fun W2 B2 => hp z hz (unaL s') W2 (hA.on (Bel.trans (Bel.trans g B) B2)) (hm.on (Bel.trans (Bel.trans g B) B2)))
  have := bareUna_any no n nc s' 0 ko (some ⟨b,off,none⟩) kn kc jn jc (unT s' (txt (opd (unaL s') a))) W hu
  have e : unT s' (txt (opd (unaL s') a)) = txt (itE (una s' a)) := by
   rcases hsv with rfl | rfl
   ·rw [itE_neg]; rfl
   ·rw [itE_not]; rfl
  rw [e] at this
  exact this
 | _,.bin s a b hsv h1 h2,hs => by
  unfold bin at *
  rw [size,sizes,sizes,sizes] at hs
  have hp1 := pE (L := L) (no := no) (n := n) (nc := nc) h1 (by omega)
  have hp2 := pE (L := L) (no := no) (n := n) (nc := nc) h2 (by omega)
  have hla := len_oE h1 (leftL (binL s))
  have hlb := len_oE h2 (binL s + 1)
  have hol := op_len hsv
  have hg : GE (bin s a b) := .bin s a b hsv h1 h2
  refine pe_of (by have := len_E hg; unfold bin at this; rw [size,sizes,sizes,sizes] at this; omega) fun kids hk v W0 hv hA hm W g => ?_
  rw [Ats] at hk
  obtain ⟨z1,l,rfl,hz1,hl⟩ := hk
  rw [Ats] at hl
  obtain ⟨z2,l,rfl,hz2,hl⟩ := hl
  rw [Ats] at hl
  subst hl
  obtain ⟨k',s',i',ko,kn,kc,jo,jn,jc⟩ := v
  obtain rfl : k' = 9 := hv.k
  obtain rfl : s' = s := hv.s
  obtain rfl : i' = 0 := hv.i
  have hjn : 2 = jn := hv.kids.1
  obtain ⟨b,off,rfl,hc⟩ := za_addr hv.kids (show 0 < jn by omega)
  have c0 := hc 0 (by simp)
  have c1 := hc 1 (by simp)
  have := bin_any no n nc z1 z2 s' 0 ko kn kc jn jc b off (by omega) (txt (opd (leftL (binL s')) a)) (txt (opd (binL s' + 1) _)) (by omega) (by omega) (by omega) W (g.cell' c0) (g.cell' c1) (fun W2 B2 => hp1 z1 hz1 (leftL (binL s')) W2 (hA.on (Bel.trans g B2)) (hm.on (Bel.trans g B2))) (fun W2 B2 => hp2 z2 hz2 (binL s' + 1) W2 (hA.on (Bel.trans g B2)) (hm.on (Bel.trans g B2)))
  have e := itE_bin s' a ‹T›
  unfold bin at e
  rw [e,txt_app,txt_sp,op_text,txt_sp]
  exact this
 | _,.idx a b h1 h2,hs => by
  unfold idx at *
  rw [size,sizes,sizes,sizes] at hs
  have hp1 := pE (L := L) (no := no) (n := n) (nc := nc) h1 (by omega)
  have hp2 := pE (L := L) (no := no) (n := n) (nc := nc) h2 (by omega)
  have hla := len_oE h1 8
  have hlb := len_oE h2 1
  have hg : GE (idx a b) := .idx a b h1 h2
  refine pe_of (by have := len_E hg; unfold idx at this; rw [size,sizes,sizes,sizes] at this; omega) fun kids hk v W0 hv hA hm W g => ?_
  rw [Ats] at hk
  obtain ⟨z1,l,rfl,hz1,hl⟩ := hk
  rw [Ats] at hl
  obtain ⟨z2,l,rfl,hz2,hl⟩ := hl
  rw [Ats] at hl
  subst hl
  obtain ⟨k',s',i',ko,kn,kc,jo,jn,jc⟩ := v
  obtain rfl : k' = 10 := hv.k
  obtain rfl : s' = [] := hv.s
  obtain rfl : i' = 0 := hv.i
  have hjn : 2 = jn := hv.kids.1
  obtain ⟨bb,off,rfl,hc⟩ := za_addr hv.kids (show 0 < jn by omega)
  have c0 := hc 0 (by simp)
  have c1 := hc 1 (by simp)
  have := idx_any no n nc z1 z2 [] 0 ko kn kc jn jc bb off (by omega) (txt (opd 8 a)) (txt (opd 1 b)) (by omega) (by omega) W (g.cell' c0) (g.cell' c1) (fun W2 B2 => hp1 z1 hz1 8 W2 (hA.on (Bel.trans g B2)) (hm.on (Bel.trans g B2))) (fun W2 B2 => hp2 z2 hz2 1 W2 (hA.on (Bel.trans g B2)) (hm.on (Bel.trans g B2)))
  have e := itE_idx a b
  unfold idx at e
  rw [e,List.append_assoc,txt_app,List.cons_append,txt_s,txt_app]
  exact this
 | _,.call s ts hsv h,hs => by
  rw [size] at hs
  have hl := row_len (len_Es h)
  have hc := sizes_le ts
  have hnl := name_len hsv
  have hp := pEs (L := L) (no := no) (n := n) (nc := nc) h (by omega)
  refine pe_of (by have := len_E (.call s ts hsv h); rw [size] at this; omega) fun kids hk v W0 hv hA hm W g => ?_
  obtain ⟨k',s',i',ko,kn,kc,jo,jn,jc⟩ := v
  obtain rfl : k' = 11 := hv.k
  obtain rfl : s' = s := hv.s
  obtain rfl : i' = 0 := hv.i
  have hkl := ats_len hk
  have hjn : kids.length = jn := hv.kids.1
  have hL := fun W1 (B : Bel W W1) => list_any no n nc 11 (by decide) s' 0 ko jo kn kc jn jc (by omega) kids ((row ts).map txt) (by rw [List.length_map,row_count]; omega) W1 (hv.kids.on (Bel.trans g B)) (fun j h1 h2 W2 B2 => all_at hp hk j h1 h2 W2 (hA.on (Bel.trans (Bel.trans g B) B2)) (hm.on (Bel.trans (Bel.trans g B) B2))) (by rw [join_row]; omega)
  rw [join_row] at hL
  have := bareCall_any no n nc s' (by omega) 0 ko jo kn kc jn jc (txt (sep (row ts))) (by omega) W hL
  rw [itE_call,txt_app,txt_n,txt_s,List.append_assoc,List.append_assoc]
  exact this
 | _,.host s ts hsv h,hs => by
  rw [size] at hs
  have hl := row_len (len_Es h)
  have hc := sizes_le ts
  have hp := pEs (L := L) (no := no) (n := n) (nc := nc) h (by omega)
  refine pe_of (by have := len_E (.host s ts hsv h); rw [size] at this; omega) fun kids hk v W0 hv hA hm W g => ?_
  obtain ⟨k',s',i',ko,kn,kc,jo,jn,jc⟩ := v
  obtain rfl : k' = 12 := hv.k
  obtain rfl : s' = s := hv.s
  obtain rfl : i' = 0 := hv.i
  have hkl := ats_len hk
  have hjn : kids.length = jn := hv.kids.1
  have hL := fun W1 (B : Bel W W1) => list_any no n nc 12 (by decide) s' 0 ko jo kn kc jn jc (by omega) kids ((row ts).map txt) (by rw [List.length_map,row_count]; omega) W1 (hv.kids.on (Bel.trans g B)) (fun j h1 h2 W2 B2 => all_at hp hk j h1 h2 W2 (hA.on (Bel.trans (Bel.trans g B) B2)) (hm.on (Bel.trans (Bel.trans g B) B2))) (by rw [join_row]; omega)
  rw [join_row] at hL
  have := bareHost_any no n nc s' 0 (by decide) ko jo kn kc jn jc (txt (sep (row ts))) (by omega) W (hm.on g) hL
  rw [show Lex.txtT ⟨6,s',0,0⟩ = Lex.wrt (tk (6,s',0)) from (Lex.txt_yes hsv).1] at this
  rw [itE_host,txt_app,txt_tok,txt_s,List.append_assoc,List.append_assoc]
  exact this
theorem pEs {L : List Nd} {no : Option Addr} {n nc : Nat} : ∀ {ts : Ts},GEs ts → sizes ts ≤ 1000 → AllP L no n nc ts
 | _,.nil,_ => by rw [AllP]; trivial
 | _,.cons t r h hr,hs => by
  rw [sizes] at hs
  rw [AllP]
  exact ⟨pE h (by omega),pEs hr (by omega)⟩
end

theorem st13_any (no : Option Addr) (n nc z : Nat) (L : List Nd) (s : Txt) (i : Int) (keys : List Txt) (q0 : Nat) (hz : L[z]? = some ⟨13,s,i,keys,[(q0 : Int)]⟩) (I X  : Txt) (hs : s.length ≤ 1000000000) (hX : X.length ≤ 1000000000)  (w : World) (hA : NArg w no n L)
  (he : ∀ W,Bel w W → Calls Tryz.prog 152 #[.slice no n nc,.int .i64 (q0 : Int),.int .i64 1] W fun e w' => e = .returned (.string ⟨X.toArray⟩) ∧ Bel W w') :
  Calls Tryz.prog 95 #[.slice no n nc,.int .i64 (z : Int),.string ⟨I.toArray⟩] w fun e w' => e = .returned (.string ⟨([108,101,116,32] ++ (s ++ ([32,61,32] ++ (X ++ [59])))).toArray⟩) ∧ Bel w w' := by
 obtain ⟨hzl,hze⟩ := List.getElem?_eq_some_iff.1 hz
 have hn := hA.1
 obtain ⟨b,off,rfl,hcs⟩ := hA.2 (by omega)
 obtain ⟨v,hv,hcc⟩ := hcs z hzl
 rw [hze] at hv
 obtain ⟨vk,vs,vi,ko,kn,kc,jo,jn,jc⟩ := v
 obtain rfl : vk = 13 := hv.k
 obtain rfl : vs = s := hv.s
 obtain rfl : vi = i := hv.i
 have hjn : 1 = jn := hv.kids.1
 obtain ⟨bj,oj,rfl,hc⟩ := za_addr hv.kids (show 0 < jn by omega)
 have c0 : w.cell? ⟨b,off + z * 5,none⟩ = some (.int .i64 13) := by simpa using hcc 0 _ rfl
 have c1 : w.cell? ⟨b,off + z * 5 + 1,none⟩ = some (.string ⟨vs.toArray⟩) := by simpa using hcc 1 _ rfl
 have c2 : w.cell? ⟨b,off + z * 5 + 2,none⟩ = some (.int .i64 vi) := by simpa using hcc 2 _ rfl
 have c3 : w.cell? ⟨b,off + z * 5 + 3,none⟩ = some (.slice ko kn kc) := by simpa using hcc 3 _ rfl
 have c4 : w.cell? ⟨b,off + z * 5 + 4,none⟩ = some (.slice (some ⟨bj,oj,none⟩) jn jc) := by simpa using hcc 4 _ rfl
 subst hjn
 obtain ⟨V,hV⟩ : ∃ V,w.alloc (.cells #[.int .i64 13,.string ⟨vs.toArray⟩,.int .i64 vi,.slice ko kn kc,.slice (some ⟨bj,oj,none⟩) 1 jc] 65) = V := ⟨_,rfl⟩
 have BV : Bel w V := by rw [← hV]; exact Bel.alloc (Bel.refl w) _
 obtain ⟨y0,y1,y2,y3,y4⟩ : V.cell? ⟨w.heap.size,0,none⟩ = some (.int .i64 13) ∧ V.cell? ⟨w.heap.size,1,none⟩ = some (.string ⟨vs.toArray⟩) ∧ V.cell? ⟨w.heap.size,2,none⟩ = some (.int .i64 vi) ∧ V.cell? ⟨w.heap.size,3,none⟩ = some (.slice ko kn kc) ∧ V.cell? ⟨w.heap.size,4,none⟩ = some (.slice (some ⟨bj,oj,none⟩) 1 jc) := by rw [← hV]; exact box5 w _ _ _ _ _ _
 have d0 : V.cell? ⟨bj,oj,none⟩ = some (.int .i64 (q0 : Int)) := BV.cell' (hc 0 (show 0 < [(q0 : Int)].length by simp))
 have HB := Lib.hid BV
 have HE := Lib.hid (he V BV)
 have hzn : (z : Int) < (n : Int) := by omega
 have hz0 : (0 : Int) ≤ (z : Int) := by omega
 have f0 : (9223372036854775807 < 4 + vs.length) = False := eq_false (by omega)
 have f1 : (9223372036854775807 < 4 + vs.length + 3) = False := eq_false (by omega)
 have f2 : (9223372036854775807 < 4 + vs.length + 3 + X.length) = False := eq_false (by omega)
 have f3 : (9223372036854775807 < 4 + vs.length + 3 + X.length + 1) = False := eq_false (by omega)
 clear he  hz hze hcs hcc hv hA hc BV hn hzl hs hX 
 go_enter Tryz.func95,Tryz.ntmps95
 go_wp2_with fail
 refine HE.out.mono ?_
 rintro e w2 ⟨rfl,g⟩
 have y0 := g.cell' y0
 have y1 := g.cell' y1
 have y4 := g.cell' y4
 have G := Lib.hid (Bel.trans HB.out g)
 clear g
 go_wp2_with fail
 go_ret
 exact ⟨by simp [ByteArray.ext_iff],G.out⟩
theorem st14_any (no : Option Addr) (n nc z : Nat) (L : List Nd) (s : Txt) (i : Int) (keys : List Txt) (q0 : Nat) (hz : L[z]? = some ⟨14,s,i,keys,[(q0 : Int)]⟩) (I X  : Txt) (hs : s.length ≤ 1000000000) (hX : X.length ≤ 1000000000)  (w : World) (hA : NArg w no n L)
  (he : ∀ W,Bel w W → Calls Tryz.prog 152 #[.slice no n nc,.int .i64 (q0 : Int),.int .i64 1] W fun e w' => e = .returned (.string ⟨X.toArray⟩) ∧ Bel W w') :
  Calls Tryz.prog 95 #[.slice no n nc,.int .i64 (z : Int),.string ⟨I.toArray⟩] w fun e w' => e = .returned (.string ⟨(s ++ ([32,61,32] ++ (X ++ [59]))).toArray⟩) ∧ Bel w w' := by
 obtain ⟨hzl,hze⟩ := List.getElem?_eq_some_iff.1 hz
 have hn := hA.1
 obtain ⟨b,off,rfl,hcs⟩ := hA.2 (by omega)
 obtain ⟨v,hv,hcc⟩ := hcs z hzl
 rw [hze] at hv
 obtain ⟨vk,vs,vi,ko,kn,kc,jo,jn,jc⟩ := v
 obtain rfl : vk = 14 := hv.k
 obtain rfl : vs = s := hv.s
 obtain rfl : vi = i := hv.i
 have hjn : 1 = jn := hv.kids.1
 obtain ⟨bj,oj,rfl,hc⟩ := za_addr hv.kids (show 0 < jn by omega)
 have c0 : w.cell? ⟨b,off + z * 5,none⟩ = some (.int .i64 14) := by simpa using hcc 0 _ rfl
 have c1 : w.cell? ⟨b,off + z * 5 + 1,none⟩ = some (.string ⟨vs.toArray⟩) := by simpa using hcc 1 _ rfl
 have c2 : w.cell? ⟨b,off + z * 5 + 2,none⟩ = some (.int .i64 vi) := by simpa using hcc 2 _ rfl
 have c3 : w.cell? ⟨b,off + z * 5 + 3,none⟩ = some (.slice ko kn kc) := by simpa using hcc 3 _ rfl
 have c4 : w.cell? ⟨b,off + z * 5 + 4,none⟩ = some (.slice (some ⟨bj,oj,none⟩) jn jc) := by simpa using hcc 4 _ rfl
 subst hjn
 obtain ⟨V,hV⟩ : ∃ V,w.alloc (.cells #[.int .i64 14,.string ⟨vs.toArray⟩,.int .i64 vi,.slice ko kn kc,.slice (some ⟨bj,oj,none⟩) 1 jc] 65) = V := ⟨_,rfl⟩
 have BV : Bel w V := by rw [← hV]; exact Bel.alloc (Bel.refl w) _
 obtain ⟨y0,y1,y2,y3,y4⟩ : V.cell? ⟨w.heap.size,0,none⟩ = some (.int .i64 14) ∧ V.cell? ⟨w.heap.size,1,none⟩ = some (.string ⟨vs.toArray⟩) ∧ V.cell? ⟨w.heap.size,2,none⟩ = some (.int .i64 vi) ∧ V.cell? ⟨w.heap.size,3,none⟩ = some (.slice ko kn kc) ∧ V.cell? ⟨w.heap.size,4,none⟩ = some (.slice (some ⟨bj,oj,none⟩) 1 jc) := by rw [← hV]; exact box5 w _ _ _ _ _ _
 have d0 : V.cell? ⟨bj,oj,none⟩ = some (.int .i64 (q0 : Int)) := BV.cell' (hc 0 (show 0 < [(q0 : Int)].length by simp))
 have HB := Lib.hid BV
 have HE := Lib.hid (he V BV)
 have hzn : (z : Int) < (n : Int) := by omega
 have hz0 : (0 : Int) ≤ (z : Int) := by omega
 have f0 : (9223372036854775807 < vs.length + 3) = False := eq_false (by omega)
 have f1 : (9223372036854775807 < vs.length + 3 + X.length) = False := eq_false (by omega)
 have f2 : (9223372036854775807 < vs.length + 3 + X.length + 1) = False := eq_false (by omega)
 clear he  hz hze hcs hcc hv hA hc BV hn hzl hs hX 
 go_enter Tryz.func95,Tryz.ntmps95
 go_wp2_with fail
 refine HE.out.mono ?_
 rintro e w2 ⟨rfl,g⟩
 have y0 := g.cell' y0
 have y1 := g.cell' y1
 have y4 := g.cell' y4
 have G := Lib.hid (Bel.trans HB.out g)
 clear g
 go_wp2_with fail
 go_ret
 exact ⟨by simp [ByteArray.ext_iff],G.out⟩
theorem st15_any (no : Option Addr) (n nc z : Nat) (L : List Nd) (s : Txt) (i : Int) (keys : List Txt) (q0 q1 : Nat) (hz : L[z]? = some ⟨15,s,i,keys,[(q0 : Int),(q1 : Int)]⟩) (I X B1 : Txt) (hs : s.length ≤ 1000000000) (hX : X.length ≤ 1000000000) (hB1 : B1.length ≤ 1000000000) (w : World) (hA : NArg w no n L)
  (he : ∀ W,Bel w W → Calls Tryz.prog 152 #[.slice no n nc,.int .i64 (q0 : Int),.int .i64 1] W fun e w' => e = .returned (.string ⟨X.toArray⟩) ∧ Bel W w')
  (hb1 : ∀ W,Bel w W → Calls Tryz.prog 47 #[.slice no n nc,.int .i64 (q1 : Int),.string ⟨I.toArray⟩] W fun e w' => e = .returned (.string ⟨B1.toArray⟩) ∧ Bel W w') :
  Calls Tryz.prog 95 #[.slice no n nc,.int .i64 (z : Int),.string ⟨I.toArray⟩] w fun e w' => e = .returned (.string ⟨([105,102,32] ++ (X ++ 32 :: B1)).toArray⟩) ∧ Bel w w' := by
 obtain ⟨hzl,hze⟩ := List.getElem?_eq_some_iff.1 hz
 have hn := hA.1
 obtain ⟨b,off,rfl,hcs⟩ := hA.2 (by omega)
 obtain ⟨v,hv,hcc⟩ := hcs z hzl
 rw [hze] at hv
 obtain ⟨vk,vs,vi,ko,kn,kc,jo,jn,jc⟩ := v
 obtain rfl : vk = 15 := hv.k
 obtain rfl : vs = s := hv.s
 obtain rfl : vi = i := hv.i
 have hjn : 2 = jn := hv.kids.1
 obtain ⟨bj,oj,rfl,hc⟩ := za_addr hv.kids (show 0 < jn by omega)
 have c0 : w.cell? ⟨b,off + z * 5,none⟩ = some (.int .i64 15) := by simpa using hcc 0 _ rfl
 have c1 : w.cell? ⟨b,off + z * 5 + 1,none⟩ = some (.string ⟨vs.toArray⟩) := by simpa using hcc 1 _ rfl
 have c2 : w.cell? ⟨b,off + z * 5 + 2,none⟩ = some (.int .i64 vi) := by simpa using hcc 2 _ rfl
 have c3 : w.cell? ⟨b,off + z * 5 + 3,none⟩ = some (.slice ko kn kc) := by simpa using hcc 3 _ rfl
 have c4 : w.cell? ⟨b,off + z * 5 + 4,none⟩ = some (.slice (some ⟨bj,oj,none⟩) jn jc) := by simpa using hcc 4 _ rfl
 subst hjn
 obtain ⟨V,hV⟩ : ∃ V,w.alloc (.cells #[.int .i64 15,.string ⟨vs.toArray⟩,.int .i64 vi,.slice ko kn kc,.slice (some ⟨bj,oj,none⟩) 2 jc] 65) = V := ⟨_,rfl⟩
 have BV : Bel w V := by rw [← hV]; exact Bel.alloc (Bel.refl w) _
 obtain ⟨y0,y1,y2,y3,y4⟩ : V.cell? ⟨w.heap.size,0,none⟩ = some (.int .i64 15) ∧ V.cell? ⟨w.heap.size,1,none⟩ = some (.string ⟨vs.toArray⟩) ∧ V.cell? ⟨w.heap.size,2,none⟩ = some (.int .i64 vi) ∧ V.cell? ⟨w.heap.size,3,none⟩ = some (.slice ko kn kc) ∧ V.cell? ⟨w.heap.size,4,none⟩ = some (.slice (some ⟨bj,oj,none⟩) 2 jc) := by rw [← hV]; exact box5 w _ _ _ _ _ _
 have d0 : V.cell? ⟨bj,oj,none⟩ = some (.int .i64 (q0 : Int)) := BV.cell' (hc 0 (show 0 < [(q0 : Int),(q1 : Int)].length by simp))
 have d1 : V.cell? ⟨bj,oj + 1,none⟩ = some (.int .i64 (q1 : Int)) := BV.cell' (hc 1 (show 1 < [(q0 : Int),(q1 : Int)].length by simp))
 have HB := Lib.hid BV
 have HE := Lib.hid (he V BV)
 have HB1 := Lib.hid hb1
 have hzn : (z : Int) < (n : Int) := by omega
 have hz0 : (0 : Int) ≤ (z : Int) := by omega
 have f0 : (9223372036854775807 < 3 + X.length) = False := eq_false (by omega)
 have f1 : (9223372036854775807 < 3 + X.length + 1) = False := eq_false (by omega)
 have f2 : (9223372036854775807 < 3 + X.length + 1 + B1.length) = False := eq_false (by omega)
 clear he hb1 hz hze hcs hcc hv hA hc BV hn hzl hs hX hB1
 go_enter Tryz.func95,Tryz.ntmps95
 go_wp2_with fail
 refine HE.out.mono ?_
 rintro e w2 ⟨rfl,g⟩
 have y0 := g.cell' y0
 have y1 := g.cell' y1
 have y4 := g.cell' y4
 have d1 := g.cell' d1
 have G := Lib.hid (Bel.trans HB.out g)
 clear g
 have HC1 := Lib.hid (HB1.out w2 G.out)
 go_wp2_with fail
 refine HC1.out.mono ?_
 rintro e w3 ⟨rfl,g⟩
 have y4 := g.cell' y4
 have G := Lib.hid (Bel.trans G.out g)
 clear g
 go_wp2_with fail
 go_ret
 exact ⟨by simp [ByteArray.ext_iff],G.out⟩
theorem st15e_any (no : Option Addr) (n nc z : Nat) (L : List Nd) (s : Txt) (i : Int) (keys : List Txt) (q0 q1 q2 : Nat) (hz : L[z]? = some ⟨15,s,i,keys,[(q0 : Int),(q1 : Int),(q2 : Int)]⟩) (I X B1 B2 : Txt) (hs : s.length ≤ 1000000000) (hX : X.length ≤ 1000000000) (hB1 : B1.length ≤ 1000000000) (hB2 : B2.length ≤ 1000000000) (w : World) (hA : NArg w no n L)
  (he : ∀ W,Bel w W → Calls Tryz.prog 152 #[.slice no n nc,.int .i64 (q0 : Int),.int .i64 1] W fun e w' => e = .returned (.string ⟨X.toArray⟩) ∧ Bel W w')
  (hb1 : ∀ W,Bel w W → Calls Tryz.prog 47 #[.slice no n nc,.int .i64 (q1 : Int),.string ⟨I.toArray⟩] W fun e w' => e = .returned (.string ⟨B1.toArray⟩) ∧ Bel W w')
  (hb2 : ∀ W,Bel w W → Calls Tryz.prog 47 #[.slice no n nc,.int .i64 (q2 : Int),.string ⟨I.toArray⟩] W fun e w' => e = .returned (.string ⟨B2.toArray⟩) ∧ Bel W w') :
  Calls Tryz.prog 95 #[.slice no n nc,.int .i64 (z : Int),.string ⟨I.toArray⟩] w fun e w' => e = .returned (.string ⟨([105,102,32] ++ (X ++ 32 :: (B1 ++ ([32,101,108,115,101,32] ++ B2)))).toArray⟩) ∧ Bel w w' := by
 obtain ⟨hzl,hze⟩ := List.getElem?_eq_some_iff.1 hz
 have hn := hA.1
 obtain ⟨b,off,rfl,hcs⟩ := hA.2 (by omega)
 obtain ⟨v,hv,hcc⟩ := hcs z hzl
 rw [hze] at hv
 obtain ⟨vk,vs,vi,ko,kn,kc,jo,jn,jc⟩ := v
 obtain rfl : vk = 15 := hv.k
 obtain rfl : vs = s := hv.s
 obtain rfl : vi = i := hv.i
 have hjn : 3 = jn := hv.kids.1
 obtain ⟨bj,oj,rfl,hc⟩ := za_addr hv.kids (show 0 < jn by omega)
 have c0 : w.cell? ⟨b,off + z * 5,none⟩ = some (.int .i64 15) := by simpa using hcc 0 _ rfl
 have c1 : w.cell? ⟨b,off + z * 5 + 1,none⟩ = some (.string ⟨vs.toArray⟩) := by simpa using hcc 1 _ rfl
 have c2 : w.cell? ⟨b,off + z * 5 + 2,none⟩ = some (.int .i64 vi) := by simpa using hcc 2 _ rfl
 have c3 : w.cell? ⟨b,off + z * 5 + 3,none⟩ = some (.slice ko kn kc) := by simpa using hcc 3 _ rfl
 have c4 : w.cell? ⟨b,off + z * 5 + 4,none⟩ = some (.slice (some ⟨bj,oj,none⟩) jn jc) := by simpa using hcc 4 _ rfl
 subst hjn
 obtain ⟨V,hV⟩ : ∃ V,w.alloc (.cells #[.int .i64 15,.string ⟨vs.toArray⟩,.int .i64 vi,.slice ko kn kc,.slice (some ⟨bj,oj,none⟩) 3 jc] 65) = V := ⟨_,rfl⟩
 have BV : Bel w V := by rw [← hV]; exact Bel.alloc (Bel.refl w) _
 obtain ⟨y0,y1,y2,y3,y4⟩ : V.cell? ⟨w.heap.size,0,none⟩ = some (.int .i64 15) ∧ V.cell? ⟨w.heap.size,1,none⟩ = some (.string ⟨vs.toArray⟩) ∧ V.cell? ⟨w.heap.size,2,none⟩ = some (.int .i64 vi) ∧ V.cell? ⟨w.heap.size,3,none⟩ = some (.slice ko kn kc) ∧ V.cell? ⟨w.heap.size,4,none⟩ = some (.slice (some ⟨bj,oj,none⟩) 3 jc) := by rw [← hV]; exact box5 w _ _ _ _ _ _
 have d0 : V.cell? ⟨bj,oj,none⟩ = some (.int .i64 (q0 : Int)) := BV.cell' (hc 0 (show 0 < [(q0 : Int),(q1 : Int),(q2 : Int)].length by simp))
 have d1 : V.cell? ⟨bj,oj + 1,none⟩ = some (.int .i64 (q1 : Int)) := BV.cell' (hc 1 (show 1 < [(q0 : Int),(q1 : Int),(q2 : Int)].length by simp))
 have d2 : V.cell? ⟨bj,oj + 2,none⟩ = some (.int .i64 (q2 : Int)) := BV.cell' (hc 2 (show 2 < [(q0 : Int),(q1 : Int),(q2 : Int)].length by simp))
 have HB := Lib.hid BV
 have HE := Lib.hid (he V BV)
 have HB1 := Lib.hid hb1
 have HB2 := Lib.hid hb2
 have hzn : (z : Int) < (n : Int) := by omega
 have hz0 : (0 : Int) ≤ (z : Int) := by omega
 have f0 : (9223372036854775807 < 3 + X.length) = False := eq_false (by omega)
 have f1 : (9223372036854775807 < 3 + X.length + 1) = False := eq_false (by omega)
 have f2 : (9223372036854775807 < 3 + X.length + 1 + B1.length) = False := eq_false (by omega)
 have f3 : (9223372036854775807 < 3 + X.length + 1 + B1.length + (6 + B2.length)) = False := eq_false (by omega)
 have f4 : (9223372036854775807 < 6 + B2.length) = False := eq_false (by omega)
 clear he hb1 hb2 hz hze hcs hcc hv hA hc BV hn hzl hs hX hB1 hB2
 go_enter Tryz.func95,Tryz.ntmps95
 go_wp2_with fail
 refine HE.out.mono ?_
 rintro e w2 ⟨rfl,g⟩
 have y0 := g.cell' y0
 have y1 := g.cell' y1
 have y4 := g.cell' y4
 have d1 := g.cell' d1
 have d2 := g.cell' d2
 have G := Lib.hid (Bel.trans HB.out g)
 clear g
 have HC1 := Lib.hid (HB1.out w2 G.out)
 go_wp2_with fail
 refine HC1.out.mono ?_
 rintro e w3 ⟨rfl,g⟩
 have y4 := g.cell' y4
 have d2 := g.cell' d2
 have G := Lib.hid (Bel.trans G.out g)
 clear g
 have HC2 := Lib.hid (HB2.out w3 G.out)
 go_wp2_with fail
 refine HC2.out.mono ?_
 rintro e w4 ⟨rfl,g⟩
 have y4 := g.cell' y4
 have G := Lib.hid (Bel.trans G.out g)
 clear g
 go_wp2_with fail
 go_ret
 exact ⟨by simp [ByteArray.ext_iff],G.out⟩
theorem st16_any (no : Option Addr) (n nc z : Nat) (L : List Nd) (s : Txt) (i : Int) (keys : List Txt) (q0 q1 : Nat) (hz : L[z]? = some ⟨16,s,i,keys,[(q0 : Int),(q1 : Int)]⟩) (I X B1 : Txt) (hs : s.length ≤ 1000000000) (hX : X.length ≤ 1000000000) (hB1 : B1.length ≤ 1000000000) (w : World) (hA : NArg w no n L)
  (he : ∀ W,Bel w W → Calls Tryz.prog 152 #[.slice no n nc,.int .i64 (q0 : Int),.int .i64 1] W fun e w' => e = .returned (.string ⟨X.toArray⟩) ∧ Bel W w')
  (hb1 : ∀ W,Bel w W → Calls Tryz.prog 47 #[.slice no n nc,.int .i64 (q1 : Int),.string ⟨I.toArray⟩] W fun e w' => e = .returned (.string ⟨B1.toArray⟩) ∧ Bel W w') :
  Calls Tryz.prog 95 #[.slice no n nc,.int .i64 (z : Int),.string ⟨I.toArray⟩] w fun e w' => e = .returned (.string ⟨([119,104,105,108,101,32] ++ (X ++ 32 :: B1)).toArray⟩) ∧ Bel w w' := by
 obtain ⟨hzl,hze⟩ := List.getElem?_eq_some_iff.1 hz
 have hn := hA.1
 obtain ⟨b,off,rfl,hcs⟩ := hA.2 (by omega)
 obtain ⟨v,hv,hcc⟩ := hcs z hzl
 rw [hze] at hv
 obtain ⟨vk,vs,vi,ko,kn,kc,jo,jn,jc⟩ := v
 obtain rfl : vk = 16 := hv.k
 obtain rfl : vs = s := hv.s
 obtain rfl : vi = i := hv.i
 have hjn : 2 = jn := hv.kids.1
 obtain ⟨bj,oj,rfl,hc⟩ := za_addr hv.kids (show 0 < jn by omega)
 have c0 : w.cell? ⟨b,off + z * 5,none⟩ = some (.int .i64 16) := by simpa using hcc 0 _ rfl
 have c1 : w.cell? ⟨b,off + z * 5 + 1,none⟩ = some (.string ⟨vs.toArray⟩) := by simpa using hcc 1 _ rfl
 have c2 : w.cell? ⟨b,off + z * 5 + 2,none⟩ = some (.int .i64 vi) := by simpa using hcc 2 _ rfl
 have c3 : w.cell? ⟨b,off + z * 5 + 3,none⟩ = some (.slice ko kn kc) := by simpa using hcc 3 _ rfl
 have c4 : w.cell? ⟨b,off + z * 5 + 4,none⟩ = some (.slice (some ⟨bj,oj,none⟩) jn jc) := by simpa using hcc 4 _ rfl
 subst hjn
 obtain ⟨V,hV⟩ : ∃ V,w.alloc (.cells #[.int .i64 16,.string ⟨vs.toArray⟩,.int .i64 vi,.slice ko kn kc,.slice (some ⟨bj,oj,none⟩) 2 jc] 65) = V := ⟨_,rfl⟩
 have BV : Bel w V := by rw [← hV]; exact Bel.alloc (Bel.refl w) _
 obtain ⟨y0,y1,y2,y3,y4⟩ : V.cell? ⟨w.heap.size,0,none⟩ = some (.int .i64 16) ∧ V.cell? ⟨w.heap.size,1,none⟩ = some (.string ⟨vs.toArray⟩) ∧ V.cell? ⟨w.heap.size,2,none⟩ = some (.int .i64 vi) ∧ V.cell? ⟨w.heap.size,3,none⟩ = some (.slice ko kn kc) ∧ V.cell? ⟨w.heap.size,4,none⟩ = some (.slice (some ⟨bj,oj,none⟩) 2 jc) := by rw [← hV]; exact box5 w _ _ _ _ _ _
 have d0 : V.cell? ⟨bj,oj,none⟩ = some (.int .i64 (q0 : Int)) := BV.cell' (hc 0 (show 0 < [(q0 : Int),(q1 : Int)].length by simp))
 have d1 : V.cell? ⟨bj,oj + 1,none⟩ = some (.int .i64 (q1 : Int)) := BV.cell' (hc 1 (show 1 < [(q0 : Int),(q1 : Int)].length by simp))
 have HB := Lib.hid BV
 have HE := Lib.hid (he V BV)
 have HB1 := Lib.hid hb1
 have hzn : (z : Int) < (n : Int) := by omega
 have hz0 : (0 : Int) ≤ (z : Int) := by omega
 have f0 : (9223372036854775807 < 6 + X.length) = False := eq_false (by omega)
 have f1 : (9223372036854775807 < 6 + X.length + 1) = False := eq_false (by omega)
 have f2 : (9223372036854775807 < 6 + X.length + 1 + B1.length) = False := eq_false (by omega)
 clear he hb1 hz hze hcs hcc hv hA hc BV hn hzl hs hX hB1
 go_enter Tryz.func95,Tryz.ntmps95
 go_wp2_with fail
 refine HE.out.mono ?_
 rintro e w2 ⟨rfl,g⟩
 have y0 := g.cell' y0
 have y1 := g.cell' y1
 have y4 := g.cell' y4
 have d1 := g.cell' d1
 have G := Lib.hid (Bel.trans HB.out g)
 clear g
 have HC1 := Lib.hid (HB1.out w2 G.out)
 go_wp2_with fail
 refine HC1.out.mono ?_
 rintro e w3 ⟨rfl,g⟩
 have y4 := g.cell' y4
 have G := Lib.hid (Bel.trans G.out g)
 clear g
 go_wp2_with fail
 go_ret
 exact ⟨by simp [ByteArray.ext_iff],G.out⟩
theorem st17_any (no : Option Addr) (n nc z : Nat) (L : List Nd) (s : Txt) (i : Int) (keys : List Txt) (q0 : Nat) (hz : L[z]? = some ⟨17,s,i,keys,[(q0 : Int)]⟩) (I X  : Txt) (hs : s.length ≤ 1000000000) (hX : X.length ≤ 1000000000)  (w : World) (hA : NArg w no n L)
  (he : ∀ W,Bel w W → Calls Tryz.prog 152 #[.slice no n nc,.int .i64 (q0 : Int),.int .i64 1] W fun e w' => e = .returned (.string ⟨X.toArray⟩) ∧ Bel W w') :
  Calls Tryz.prog 95 #[.slice no n nc,.int .i64 (z : Int),.string ⟨I.toArray⟩] w fun e w' => e = .returned (.string ⟨([114,101,116,117,114,110,32] ++ (X ++ [59])).toArray⟩) ∧ Bel w w' := by
 obtain ⟨hzl,hze⟩ := List.getElem?_eq_some_iff.1 hz
 have hn := hA.1
 obtain ⟨b,off,rfl,hcs⟩ := hA.2 (by omega)
 obtain ⟨v,hv,hcc⟩ := hcs z hzl
 rw [hze] at hv
 obtain ⟨vk,vs,vi,ko,kn,kc,jo,jn,jc⟩ := v
 obtain rfl : vk = 17 := hv.k
 obtain rfl : vs = s := hv.s
 obtain rfl : vi = i := hv.i
 have hjn : 1 = jn := hv.kids.1
 obtain ⟨bj,oj,rfl,hc⟩ := za_addr hv.kids (show 0 < jn by omega)
 have c0 : w.cell? ⟨b,off + z * 5,none⟩ = some (.int .i64 17) := by simpa using hcc 0 _ rfl
 have c1 : w.cell? ⟨b,off + z * 5 + 1,none⟩ = some (.string ⟨vs.toArray⟩) := by simpa using hcc 1 _ rfl
 have c2 : w.cell? ⟨b,off + z * 5 + 2,none⟩ = some (.int .i64 vi) := by simpa using hcc 2 _ rfl
 have c3 : w.cell? ⟨b,off + z * 5 + 3,none⟩ = some (.slice ko kn kc) := by simpa using hcc 3 _ rfl
 have c4 : w.cell? ⟨b,off + z * 5 + 4,none⟩ = some (.slice (some ⟨bj,oj,none⟩) jn jc) := by simpa using hcc 4 _ rfl
 subst hjn
 obtain ⟨V,hV⟩ : ∃ V,w.alloc (.cells #[.int .i64 17,.string ⟨vs.toArray⟩,.int .i64 vi,.slice ko kn kc,.slice (some ⟨bj,oj,none⟩) 1 jc] 65) = V := ⟨_,rfl⟩
 have BV : Bel w V := by rw [← hV]; exact Bel.alloc (Bel.refl w) _
 obtain ⟨y0,y1,y2,y3,y4⟩ : V.cell? ⟨w.heap.size,0,none⟩ = some (.int .i64 17) ∧ V.cell? ⟨w.heap.size,1,none⟩ = some (.string ⟨vs.toArray⟩) ∧ V.cell? ⟨w.heap.size,2,none⟩ = some (.int .i64 vi) ∧ V.cell? ⟨w.heap.size,3,none⟩ = some (.slice ko kn kc) ∧ V.cell? ⟨w.heap.size,4,none⟩ = some (.slice (some ⟨bj,oj,none⟩) 1 jc) := by rw [← hV]; exact box5 w _ _ _ _ _ _
 have d0 : V.cell? ⟨bj,oj,none⟩ = some (.int .i64 (q0 : Int)) := BV.cell' (hc 0 (show 0 < [(q0 : Int)].length by simp))
 have HB := Lib.hid BV
 have HE := Lib.hid (he V BV)
 have hzn : (z : Int) < (n : Int) := by omega
 have hz0 : (0 : Int) ≤ (z : Int) := by omega
 have f0 : (9223372036854775807 < 7 + X.length) = False := eq_false (by omega)
 have f1 : (9223372036854775807 < 7 + X.length + 1) = False := eq_false (by omega)
 clear he  hz hze hcs hcc hv hA hc BV hn hzl hs hX 
 go_enter Tryz.func95,Tryz.ntmps95
 go_wp2_with fail
 refine HE.out.mono ?_
 rintro e w2 ⟨rfl,g⟩
 have y0 := g.cell' y0
 have y1 := g.cell' y1
 have y4 := g.cell' y4
 have G := Lib.hid (Bel.trans HB.out g)
 clear g
 go_wp2_with fail
 go_ret
 exact ⟨by simp [ByteArray.ext_iff],G.out⟩
theorem st18_any (no : Option Addr) (n nc z : Nat) (L : List Nd) (s : Txt) (i : Int) (keys : List Txt) (q0 : Nat) (hz : L[z]? = some ⟨18,s,i,keys,[(q0 : Int)]⟩) (I X  : Txt) (hs : s.length ≤ 1000000000) (hX : X.length ≤ 1000000000)  (w : World) (hA : NArg w no n L)
  (he : ∀ W,Bel w W → Calls Tryz.prog 152 #[.slice no n nc,.int .i64 (q0 : Int),.int .i64 1] W fun e w' => e = .returned (.string ⟨X.toArray⟩) ∧ Bel W w') :
  Calls Tryz.prog 95 #[.slice no n nc,.int .i64 (z : Int),.string ⟨I.toArray⟩] w fun e w' => e = .returned (.string ⟨(X ++ [59]).toArray⟩) ∧ Bel w w' := by
 obtain ⟨hzl,hze⟩ := List.getElem?_eq_some_iff.1 hz
 have hn := hA.1
 obtain ⟨b,off,rfl,hcs⟩ := hA.2 (by omega)
 obtain ⟨v,hv,hcc⟩ := hcs z hzl
 rw [hze] at hv
 obtain ⟨vk,vs,vi,ko,kn,kc,jo,jn,jc⟩ := v
 obtain rfl : vk = 18 := hv.k
 obtain rfl : vs = s := hv.s
 obtain rfl : vi = i := hv.i
 have hjn : 1 = jn := hv.kids.1
 obtain ⟨bj,oj,rfl,hc⟩ := za_addr hv.kids (show 0 < jn by omega)
 have c0 : w.cell? ⟨b,off + z * 5,none⟩ = some (.int .i64 18) := by simpa using hcc 0 _ rfl
 have c1 : w.cell? ⟨b,off + z * 5 + 1,none⟩ = some (.string ⟨vs.toArray⟩) := by simpa using hcc 1 _ rfl
 have c2 : w.cell? ⟨b,off + z * 5 + 2,none⟩ = some (.int .i64 vi) := by simpa using hcc 2 _ rfl
 have c3 : w.cell? ⟨b,off + z * 5 + 3,none⟩ = some (.slice ko kn kc) := by simpa using hcc 3 _ rfl
 have c4 : w.cell? ⟨b,off + z * 5 + 4,none⟩ = some (.slice (some ⟨bj,oj,none⟩) jn jc) := by simpa using hcc 4 _ rfl
 subst hjn
 obtain ⟨V,hV⟩ : ∃ V,w.alloc (.cells #[.int .i64 18,.string ⟨vs.toArray⟩,.int .i64 vi,.slice ko kn kc,.slice (some ⟨bj,oj,none⟩) 1 jc] 65) = V := ⟨_,rfl⟩
 have BV : Bel w V := by rw [← hV]; exact Bel.alloc (Bel.refl w) _
 obtain ⟨y0,y1,y2,y3,y4⟩ : V.cell? ⟨w.heap.size,0,none⟩ = some (.int .i64 18) ∧ V.cell? ⟨w.heap.size,1,none⟩ = some (.string ⟨vs.toArray⟩) ∧ V.cell? ⟨w.heap.size,2,none⟩ = some (.int .i64 vi) ∧ V.cell? ⟨w.heap.size,3,none⟩ = some (.slice ko kn kc) ∧ V.cell? ⟨w.heap.size,4,none⟩ = some (.slice (some ⟨bj,oj,none⟩) 1 jc) := by rw [← hV]; exact box5 w _ _ _ _ _ _
 have d0 : V.cell? ⟨bj,oj,none⟩ = some (.int .i64 (q0 : Int)) := BV.cell' (hc 0 (show 0 < [(q0 : Int)].length by simp))
 have HB := Lib.hid BV
 have HE := Lib.hid (he V BV)
 have hzn : (z : Int) < (n : Int) := by omega
 have hz0 : (0 : Int) ≤ (z : Int) := by omega
 have f0 : (9223372036854775807 < X.length + 1) = False := eq_false (by omega)
 clear he  hz hze hcs hcc hv hA hc BV hn hzl hs hX 
 go_enter Tryz.func95,Tryz.ntmps95
 go_wp2_with fail
 refine HE.out.mono ?_
 rintro e w2 ⟨rfl,g⟩
 have y0 := g.cell' y0
 have y1 := g.cell' y1
 have y4 := g.cell' y4
 have G := Lib.hid (Bel.trans HB.out g)
 clear g
 go_wp2_with fail
 go_ret
 exact ⟨by simp [ByteArray.ext_iff],G.out⟩

def accB (I : Txt) (S : List Txt) : Txt := [123,10] ++ S.flatMap fun x => I ++ ([9] ++ (x ++ [10]))
theorem accB_snoc (I : Txt) (S : List Txt) (x : Txt) : accB I (S ++ [x]) = accB I S ++ (I ++ ([9] ++ (x ++ [10]))) := by
 unfold accB
 rw [List.flatMap_append,List.append_assoc]
 simp
theorem accB_mono (I : Txt) (S : List Txt) (q : Nat) : (accB I (S.take q)).length ≤ (accB I S).length := by
 conv => rhs; rw [← List.take_append_drop q S]
 unfold accB
 rw [List.flatMap_append]
 simp only [List.length_append]
 omega
theorem block_any2 (no : Option Addr) (n nc z : Nat) (L : List Nd) (k : Int) (s : Txt) (i : Int) (keys : List Txt) (kids : List Int) (hz : L[z]? = some ⟨k,s,i,keys,kids⟩) (hkm : kids.length ≤ 100000) (I : Txt) (hI : I.length ≤ 100000000) (S : List Txt) (hS : S.length = kids.length) (hSl : ∀ x ∈ S,x.length ≤ 1000000000) (hT : (accB I S).length ≤ 1000000000) (w : World) (hA : NArg w no n L)
  (hs : ∀ j (h : j < kids.length) (h' : j < S.length) W,Bel w W → Calls Tryz.prog 95 #[.slice no n nc,.int .i64 kids[j],.string ⟨(I ++ [9]).toArray⟩] W fun e w' => e = .returned (.string ⟨S[j].toArray⟩) ∧ Bel W w') :
  Calls Tryz.prog 47 #[.slice no n nc,.int .i64 (z : Int),.string ⟨I.toArray⟩] w fun e w' => e = .returned (.string ⟨(accB I S ++ (I ++ [125])).toArray⟩) ∧ Bel w w' := by
 obtain ⟨hzl,hze⟩ := List.getElem?_eq_some_iff.1 hz
 have hn := hA.1
 obtain ⟨b,off,rfl,hcs⟩ := hA.2 (by omega)
 obtain ⟨v,hv,hcc⟩ := hcs z hzl
 rw [hze] at hv
 obtain ⟨vk,vs,vi,ko,kn,kc,jo,jn,jc⟩ := v
 have hZ : ZArg w jo jn kids := hv.kids
 have c4 : w.cell? ⟨b,off + z * 5 + 4,none⟩ = some (.slice jo jn jc) := by simpa using hcc 4 _ rfl
 have hkl := hZ.1
 have hjb : jn ≤ 100000 := by omega
 have hzn : (z : Int) < (n : Int) := by omega
 have hz0 : (0 : Int) ≤ (z : Int) := by omega
 have HZ := Lib.hid hZ
 have HK := Lib.hid hkl
 have HSn := Lib.hid hS
 have HSl := Lib.hid hSl
 have HT := Lib.hid hT
 have HIl := Lib.hid hI
 have HC := Lib.hid hs
 have HB0 := Lib.hid (Bel.refl w)
 have hI1 : (9223372036854775807 < I.length + 1) = False := eq_false (by omega)
 obtain ⟨B,hB⟩ : ∃ B : ByteArray,(⟨I.toArray⟩ : ByteArray) = B := ⟨_,rfl⟩
 have hBs : B.size = I.length := by rw [← hB,← Lex.toL_len,tlB]
 have e9 : (⟨(I ++ [9]).toArray⟩ : ByteArray) = B ++ ⟨#[9]⟩ := by rw [← hB]; simp [ByteArray.ext_iff]
 rw [e9] at HC
 rw [hB]
 have hB1 : (9223372036854775807 < B.size + 1) = False := eq_false (by omega)
 have HBB := Lib.hid hB
 have HBs := Lib.hid hBs
 clear hz hze hcs hcc hv hA hZ hkl hkm hs hS hSl hT hI hI1 hB hBs e9 hzl hn
 go_enter Tryz.func47,Tryz.ntmps47
 go_wp2_with fail
 go_loopw [7,19] (fun tv iv wr => ∃ (q : Nat) (T : ByteArray),tv = .string T ∧ iv = .int .i64 (q : Int) ∧ q ≤ jn ∧ Hid (T.toList = accB I (S.take q)) ∧ Hid (Bel w wr)) (fun _ iv _ => jn - (intOf iv).toNat)
 case atStart => exact ⟨0,_,rfl,rfl,Nat.zero_le _,Lib.hid (by rw [List.take_zero]; exact tlB _),HB0⟩
 case round =>
  obtain ⟨q,T,rfl,rfl,hq,hTl,hBw⟩ := hrel
  rename World => wr
  have hTs : T.size ≤ 1000000000 := by rw [← Lex.toL_len,hTl.out]; exact Nat.le_trans (accB_mono I S q) HT.out
  have hBs : B.size ≤ 100000000 := by rw [HBs.out]; exact HIl.out
  by_cases hqm : q < jn
  ·obtain ⟨b2,off2,rfl,hc⟩ := za_addr HZ.out (by omega)
   have hql : q < kids.length := by rw [HK.out]; exact hqm
   have hqs : q < S.length := by rw [HSn.out]; exact hql
   have c0 := hBw.out.cell' (hc q hql)
   have HC2 := Lib.hid (HC.out q hql hqs wr hBw.out)
   have hxl := HSl.out S[q] (List.getElem_mem hqs)
   have ht : S.take (q + 1) = S.take q ++ [S[q]] := List.take_succ_eq_append_getElem hqs
   obtain ⟨x,hx⟩ : ∃ x : ByteArray,⟨S[q].toArray⟩ = x := ⟨_,rfl⟩
   have hxs : x.size = S[q].length := by rw [← hx,← Lex.toL_len,tlB]
   have hT2 : Hid ((T ++ (B ++ ⟨#[9]⟩ ++ x ++ ⟨#[10]⟩)).toList = accB I (S.take (q + 1))) := Lib.hid (by
    rw [ht,accB_snoc,← hTl.out,← hx,← HBB.out]
    simp [Go.ByteArray.toList_eq])
   rw [hx] at HC2
   have f1 : (9223372036854775807 < B.size + 1 + x.size) = False := eq_false (by omega)
   have f2 : (9223372036854775807 < B.size + 1 + x.size + 1) = False := eq_false (by omega)
   have f3 : (9223372036854775807 < T.size + (B.size + 1 + x.size + 1)) = False := eq_false (by omega)
   generalize kids[q] = zz at *
   clear hc hql hqs hxl ht hx hxs
   go_wp2_with fail
   refine HC2.out.mono ?_
   rintro e w2 ⟨rfl,g⟩
   have G := Lib.hid (Bel.trans hBw.out g)
   clear g
   go_wp2_with fail
   go_round
   case rel => exact ⟨q + 1,_,rfl,by go_num,by omega,hT2,G⟩
   case measure => simp [intOf]; omega
  ·obtain rfl : q = jn := by omega
   have f1 : (9223372036854775807 < T.size + B.size) = False := eq_false (by omega)
   have f2 : (9223372036854775807 < T.size + B.size + 1) = False := eq_false (by omega)
   have hfin : Hid ((T ++ B ++ ⟨#[125]⟩ : ByteArray) = ⟨(accB I S ++ (I ++ [125])).toArray⟩) := Lib.hid (by
    have h := hTl.out
    rw [List.take_of_length_le (by rw [HSn.out,HK.out]; omega)] at h
    rw [← h,← HBB.out]
    simp [ByteArray.ext_iff,Go.ByteArray.toList_eq])
   go_wp2_with fail
   go_ret
   exact ⟨by rw [← hfin.out]; rfl,hBw.out⟩
def PS (L : List Nd) (no : Option Addr) (n nc : Nat) (t : T) : Prop := ∀ (z : Nat),At L z t → ∀ (d : Nat),d + size t ≤ 1000 → ∀ (W : World),NArg W no n L → Lex.ML W →
 Calls Tryz.prog 95 #[.slice no n nc,.int .i64 (z : Int),.string ⟨(txt (tabs d)).toArray⟩] W fun e w' => e = .returned (.string ⟨(txt (itS d t)).toArray⟩) ∧ Bel W w'
def PB (L : List Nd) (no : Option Addr) (n nc : Nat) (t : T) : Prop := ∀ (z : Nat),At L z t → ∀ (d : Nat),d + size t ≤ 1000 → ∀ (W : World),NArg W no n L → Lex.ML W →
 Calls Tryz.prog 47 #[.slice no n nc,.int .i64 (z : Int),.string ⟨(txt (tabs d)).toArray⟩] W fun e w' => e = .returned (.string ⟨(txt (itB d t)).toArray⟩) ∧ Bel W w'
def texts (d : Nat) : Ts → List Txt
 | .nil => []
 | .cons t r => txt (itS d t) :: texts d r
theorem texts_len (d : Nat) : ∀ ts : Ts,(texts d ts).length = count ts
 | .nil => rfl
 | .cons t r => by rw [texts,List.length_cons,texts_len d r,count]
theorem tabs_snoc (d : Nat) : txt (tabs (d + 1)) = txt (tabs d) ++ [9] := by
 have e : txt (tabs (d + 1)) = 9 :: txt (tabs d) := rfl
 rw [e]
 induction d with
 | zero => rfl
 | succ d ih =>
  have e2 : txt (tabs (d + 1)) = 9 :: txt (tabs d) := rfl
  rw [e2,List.cons_append,← ih e2]
theorem acc_lines (d : Nat) : ∀ ts : Ts,(texts (d + 1) ts).flatMap (fun x => txt (tabs d) ++ ([9] ++ (x ++ [10]))) = txt (lines (d + 1) ts)
 | .nil => by rw [lines_nil]; rfl
 | .cons t r => by
  rw [texts,List.flatMap_cons,acc_lines d r,lines_cons,List.append_assoc,txt_app,txt_app,txt_gap,tabs_snoc]
  simp
theorem texts_mem {ts : Ts} (h : GdSs ts) (d : Nat) (hd : d + sizes ts ≤ 1000) : ∀ x ∈ texts d ts,x.length ≤ 1000000000 := by
 intro x hx
 induction ts using Ts.rec (motive_1 := fun _ => True) with
 | nil => cases hx
 | cons t r _ ih =>
  cases h with
  | cons _ _ h hr =>
   rw [sizes] at hd
   rw [texts] at hx
   rcases List.mem_cons.1 hx with rfl | hx
   ·have := len_S h d (by omega)
    omega
   ·exact ih hr (by omega) hx
 | node => trivial
def AllS (L : List Nd) (no : Option Addr) (n nc : Nat) : Ts → Prop
 | .nil => True
 | .cons t r => PS L no n nc t ∧ AllS L no n nc r
theorem alls_at {L : List Nd} {no : Option Addr} {n nc d : Nat} : ∀ {ts : Ts} {kids : List Int},AllS L no n nc ts → d + sizes ts ≤ 1000 → Ats L kids ts → ∀ j (h : j < kids.length) (h' : j < (texts d ts).length) (W : World),NArg W no n L → Lex.ML W →
  Calls Tryz.prog 95 #[.slice no n nc,.int .i64 kids[j],.string ⟨(txt (tabs d)).toArray⟩] W fun e w' => e = .returned (.string ⟨(texts d ts)[j].toArray⟩) ∧ Bel W w'
 | .nil,kids,_,_,ha,j,h,h',W,hA,hm => by
  rw [Ats] at ha
  subst ha
  exact absurd h (Nat.not_lt_zero _)
 | .cons t r,kids,hp,hd,ha,j,h,h',W,hA,hm => by
  rw [Ats] at ha
  rw [AllS] at hp
  rw [sizes] at hd
  obtain ⟨z,l,rfl,h1,h2⟩ := ha
  match j,h with
  | 0,_ => exact hp.1 z h1 d (by omega) W hA hm
  | j + 1,h => exact alls_at hp.2 (by omega) h2 j (by simpa using h) (by simpa [texts] using h') W hA hm
theorem at_node {L : List Nd} {z : Nat} {k : Int} {s : Txt} {i : Int} {keys : List Txt} {ts : Ts} (h : At L z (.node k s i keys ts)) : ∃ kids,L[z]? = some ⟨k,s,i,keys,kids⟩ ∧ Ats L kids ts := by
 unfold At at h
 exact h
theorem ats1 {L : List Nd} {kids : List Int} {a : T} (h : Ats L kids (.cons a .nil)) : ∃ z : Nat,kids = [(z : Int)] ∧ At L z a := by
 rw [Ats] at h
 obtain ⟨z,l,rfl,h1,h2⟩ := h
 rw [Ats] at h2
 subst h2
 exact ⟨z,rfl,h1⟩
theorem ats2 {L : List Nd} {kids : List Int} {a b : T} (h : Ats L kids (.cons a (.cons b .nil))) : ∃ z y : Nat,kids = [(z : Int),(y : Int)] ∧ At L z a ∧ At L y b := by
 rw [Ats] at h
 obtain ⟨z,l,rfl,h1,h2⟩ := h
 obtain ⟨y,rfl,h3⟩ := ats1 h2
 exact ⟨z,y,rfl,h1,h3⟩
theorem ats3 {L : List Nd} {kids : List Int} {a b c : T} (h : Ats L kids (.cons a (.cons b (.cons c .nil)))) : ∃ z y x : Nat,kids = [(z : Int),(y : Int),(x : Int)] ∧ At L z a ∧ At L y b ∧ At L x c := by
 rw [Ats] at h
 obtain ⟨z,l,rfl,h1,h2⟩ := h
 obtain ⟨y,x,rfl,h3,h4⟩ := ats2 h2
 exact ⟨z,y,x,rfl,h1,h3,h4⟩
mutual
theorem pS {L : List Nd} {no : Option Addr} {n nc : Nat} : ∀ {t : T},GdS t → PS L no n nc t
 | _,.lt s e hs h => fun z hz d hd W hA hm => by
  obtain ⟨kids,hz,hk⟩ := at_node hz
  obtain ⟨q,rfl,hq⟩ := ats1 hk
  rw [size,sizes,sizes] at hd
  have h1 := len_oE h 1
  have h2 := name_len hs
  have := st13_any no n nc z L s 0 [] q hz (txt (tabs d)) (txt (opd 1 e)) (by omega) (by omega) W hA (fun W' B => pE h (by omega) q hq 1 W' (hA.on B) (hm.on B))
  rw [itS_let]
  simp only [List.cons_append]
  rw [txt_w,txt_sp,txt_n,txt_sp,txt_s,txt_sp,txt_app]
  exact this
 | _,.set s e hs h => fun z hz d hd W hA hm => by
  obtain ⟨kids,hz,hk⟩ := at_node hz
  obtain ⟨q,rfl,hq⟩ := ats1 hk
  rw [size,sizes,sizes] at hd
  have h1 := len_oE h 1
  have h2 := name_len hs
  have := st14_any no n nc z L s 0 [] q hz (txt (tabs d)) (txt (opd 1 e)) (by omega) (by omega) W hA (fun W' B => pE h (by omega) q hq 1 W' (hA.on B) (hm.on B))
  rw [itS_set]
  simp only [List.cons_append]
  rw [txt_n,txt_sp,txt_s,txt_sp,txt_app]
  exact this
 | _,.if1 e b h hb => fun z hz d hd W hA hm => by
  obtain ⟨kids,hz,hk⟩ := at_node hz
  obtain ⟨q,y,rfl,hq,hy⟩ := ats2 hk
  rw [size,sizes,sizes,sizes] at hd
  have h1 := len_oE h 1
  have h2 := len_B hb d (by omega)
  have := st15_any no n nc z L [] 0 [] q y hz (txt (tabs d)) (txt (opd 1 e)) (txt (itB d b)) (by simp) (by omega) (by omega) W hA (fun W' B => pE h (by omega) q hq 1 W' (hA.on B) (hm.on B)) (fun W' B => pB hb y hy d (by omega) W' (hA.on B) (hm.on B))
  rw [itS_if1]
  simp only [List.cons_append]
  rw [txt_w,txt_sp,txt_app,txt_sp]
  exact this
 | _,.if2 e b f h hb hf => fun z hz d hd W hA hm => by
  obtain ⟨kids,hz,hk⟩ := at_node hz
  obtain ⟨q,y,x,rfl,hq,hy,hx⟩ := ats3 hk
  rw [size,sizes,sizes,sizes,sizes] at hd
  have h1 := len_oE h 1
  have h2 := len_B hb d (by omega)
  have h3 := len_B hf d (by omega)
  have := st15e_any no n nc z L [] 0 [] q y x hz (txt (tabs d)) (txt (opd 1 e)) (txt (itB d b)) (txt (itB d f)) (by simp) (by omega) (by omega) (by omega) W hA (fun W' B => pE h (by omega) q hq 1 W' (hA.on B) (hm.on B)) (fun W' B => pB hb y hy d (by omega) W' (hA.on B) (hm.on B)) (fun W' B => pB hf x hx d (by omega) W' (hA.on B) (hm.on B))
  rw [itS_if2]
  simp only [List.cons_append,List.append_assoc]
  rw [txt_w,txt_sp,txt_app,txt_sp,txt_app,txt_sp,txt_w,txt_sp]
  exact this
 | _,.wh e b h hb => fun z hz d hd W hA hm => by
  obtain ⟨kids,hz,hk⟩ := at_node hz
  obtain ⟨q,y,rfl,hq,hy⟩ := ats2 hk
  rw [size,sizes,sizes,sizes] at hd
  have h1 := len_oE h 1
  have h2 := len_B hb d (by omega)
  have := st16_any no n nc z L [] 0 [] q y hz (txt (tabs d)) (txt (opd 1 e)) (txt (itB d b)) (by simp) (by omega) (by omega) W hA (fun W' B => pE h (by omega) q hq 1 W' (hA.on B) (hm.on B)) (fun W' B => pB hb y hy d (by omega) W' (hA.on B) (hm.on B))
  rw [itS_wh]
  simp only [List.cons_append]
  rw [txt_w,txt_sp,txt_app,txt_sp]
  exact this
 | _,.ret e h => fun z hz d hd W hA hm => by
  obtain ⟨kids,hz,hk⟩ := at_node hz
  obtain ⟨q,rfl,hq⟩ := ats1 hk
  rw [size,sizes,sizes] at hd
  have h1 := len_oE h 1
  have := st17_any no n nc z L [] 0 [] q hz (txt (tabs d)) (txt (opd 1 e)) (by simp) (by omega) W hA (fun W' B => pE h (by omega) q hq 1 W' (hA.on B) (hm.on B))
  rw [itS_ret]
  simp only [List.cons_append]
  rw [txt_w,txt_sp,txt_app]
  exact this
 | _,.drop e h => fun z hz d hd W hA hm => by
  obtain ⟨kids,hz,hk⟩ := at_node hz
  obtain ⟨q,rfl,hq⟩ := ats1 hk
  rw [size,sizes,sizes] at hd
  have h1 := len_oE h 1
  have := st18_any no n nc z L [] 0 [] q hz (txt (tabs d)) (txt (opd 1 e)) (by simp) (by omega) W hA (fun W' B => pE h (by omega) q hq 1 W' (hA.on B) (hm.on B))
  rw [itS_do,txt_app]
  exact this
theorem pB {L : List Nd} {no : Option Addr} {n nc : Nat} : ∀ {t : T},GdB t → PB L no n nc t
 | _,.blk ts h => fun z hz d hd W hA hm => by
  obtain ⟨kids,hz,hk⟩ := at_node hz
  rw [size] at hd
  have hp := pSs (L := L) (no := no) (n := n) (nc := nc) h
  have hkl := ats_len hk
  have hl := len_L h (d + 1) (by omega)
  have hacc : accB (txt (tabs d)) (texts (d + 1) ts) = [123,10] ++ txt (lines (d + 1) ts) := by unfold accB; rw [acc_lines]
  have := block_any2 no n nc z L 19 [] 0 [] kids hz (by have := sizes_le ts; omega) (txt (tabs d)) (by rw [len_tabs]; omega) (texts (d + 1) ts) (by rw [texts_len]; omega) (texts_mem h (d + 1) (by omega)) (by rw [hacc,List.length_append,List.length_cons,List.length_cons,List.length_nil]; omega) W hA (fun j h1 h2 W' B => by
   rw [← tabs_snoc]
   exact alls_at hp (by omega) hk j h1 h2 W' (hA.on B) (hm.on B))
  rw [hacc] at this
  rw [itB_eq]
  simp only [List.cons_append,List.append_assoc]
  rw [txt_s,txt_gap,txt_app,txt_app]
  simp only [List.append_assoc] at this
  exact this
theorem pSs {L : List Nd} {no : Option Addr} {n nc : Nat} : ∀ {ts : Ts},GdSs ts → AllS L no n nc ts
 | _,.nil => by rw [AllS]; trivial
 | _,.cons t r h hr => by rw [AllS]; exact ⟨pS h,pSs hr⟩
end
end Syn
end Go.Proofs.YtcapkeaedpabjaaGreatDoor
