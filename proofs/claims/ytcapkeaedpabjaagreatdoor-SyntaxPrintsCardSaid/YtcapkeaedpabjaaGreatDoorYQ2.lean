/-
  Layer 8, texts merged: SwC, SwD. For every argument within the bounds that each theorem names.
-/
import Derived.Test.YtcapkeaedpabjaaGreatDoorYQ1
import Derived.Test.YtcapkeaedpabjaaGreatDoorYH1
set_option maxRecDepth 100000
set_option maxHeartbeats 16000000

/-
 Layer 8, the reference: operand; what it writes of an expression.
-/
namespace Go.Proofs.YtcapkeaedpabjaaGreatDoor
open Go.RowKit Go.ChangeShapes Go.WideShapes
namespace Syn
theorem roper_any (no : Option Addr) (n nc z : Nat) (L : List Nd) (x : Nd) (X : Txt) (hX : X.length ≤ 1000000000) (hz : z < L.length) (hx : L[z] = x) (hb9 : x.k = 9 → binL x.s ≠ 0) (hb8 : x.k = 8 → x.s = [45] ∨ x.s = [110,111,116]) (req : Nat) (w : World) (hA : NArg w no n L) (hb : ∀ v,NFit w v x → ∀ W,Bel w W → Calls Tryz.prog 203 #[.slice no n nc,nodV v] W fun e w' => e = .returned (.string ⟨X.toArray⟩) ∧ Bel W w') :
  Calls Tryz.prog 153 #[.slice no n nc,.int .i64 (z : Int),.int .i64 (req : Int)] w fun e w' => e = .returned (.string ⟨(brk (decide (lvN x.k x.s < req)) X).toArray⟩) ∧ Bel w w' := by
 have hn := hA.1
 obtain ⟨b,off,rfl,hcs⟩ := hA.2 (by omega)
 obtain ⟨v,hv,hcc⟩ := hcs z hz
 rw [hx] at hv
 have c0 : w.cell? ⟨b,off + z * 5,none⟩ = some (.int .i64 v.k) := by simpa using hcc 0 _ rfl
 have c1 : w.cell? ⟨b,off + z * 5 + 1,none⟩ = some (.string ⟨v.s.toArray⟩) := by simpa using hcc 1 _ rfl
 have c2 : w.cell? ⟨b,off + z * 5 + 2,none⟩ = some (.int .i64 v.i) := by simpa using hcc 2 _ rfl
 have c3 : w.cell? ⟨b,off + z * 5 + 3,none⟩ = some (.slice v.ko v.kn v.kc) := by simpa using hcc 3 _ rfl
 have c4 : w.cell? ⟨b,off + z * 5 + 4,none⟩ = some (.slice v.jo v.jn v.jc) := by simpa using hcc 4 _ rfl
 have HLv := Lib.hid (fun W => rlvN_any x.k x.s v.i hb9 hb8 v.ko v.jo v.kn v.kc v.jn v.jc W)
 have HBa := Lib.hid (hb v hv w (Bel.refl _))
 unfold nodV at HBa
 rw [hv.k,hv.s] at HBa
 rw [hv.k] at c0
 rw [hv.s] at c1
 obtain ⟨k,s,i,ko,kn,kc,jo,jn,jc⟩ := v
 dsimp only at *
 have hzn : (z : Int) < (n : Int) := by omega
 have hz0 : (0 : Int) ≤ (z : Int) := by omega
 generalize lvN x.k x.s = lv at *
 have Hs := Lib.hid hX
 clear hcs hcc hb hv hx hA hX hz hn hb9 hb8
 by_cases hlt : lv < req
 ·rw [decide_eq_true hlt]
  have hlt' : (lv : Int) < (req : Int) := by omega
  have h1 : (9223372036854775807 < 1 + X.length + 1) = False := by
   have := Hs.out
   simp only [eq_iff_iff,iff_false]
   omega
  have h2 : (9223372036854775807 < 1 + X.length) = False := by
   have := Hs.out
   simp only [eq_iff_iff,iff_false]
   omega
  go_enter Tryz.func153,Tryz.ntmps153
  go_wp2_with fail
  refine HBa.out.mono ?_
  rintro e w2 ⟨rfl,g⟩
  have d0 := g.cell' c0
  have d1 := g.cell' c1
  have d2 := g.cell' c2
  have d3 := g.cell' c3
  have d4 := g.cell' c4
  have G := Lib.hid g
  clear g
  go_wp2_with fail
  refine (HLv.out w2).mono ?_
  rintro e w3 ⟨rfl,g⟩
  have G2 := Lib.hid (Bel.trans G.out g)
  clear g
  go_wp2_with fail
  go_ret
  exact ⟨by simp [brk,ByteArray.ext_iff],G2.out⟩
 ·rw [decide_eq_false hlt]
  have hlt' : ¬ (lv : Int) < (req : Int) := by omega
  go_enter Tryz.func153,Tryz.ntmps153
  go_wp2_with fail
  refine HBa.out.mono ?_
  rintro e w2 ⟨rfl,g⟩
  have d0 := g.cell' c0
  have d1 := g.cell' c1
  have d2 := g.cell' c2
  have d3 := g.cell' c3
  have d4 := g.cell' c4
  have G := Lib.hid g
  clear g
  go_wp2_with fail
  refine (HLv.out w2).mono ?_
  rintro e w3 ⟨rfl,g⟩
  have G2 := Lib.hid (Bel.trans G.out g)
  clear g
  go_wp2_with fail
  go_ret
  exact ⟨rfl,G2.out⟩
def RE (L : List Nd) (no : Option Addr) (n nc : Nat) (t : T) : Prop := ∀ (z : Nat),At L z t → ∀ (req : Nat) (W : World),NArg W no n L →
 Calls Tryz.prog 153 #[.slice no n nc,.int .i64 (z : Int),.int .i64 (req : Int)] W fun e w' => e = .returned (.string ⟨(txt (opd req t)).toArray⟩) ∧ Bel W w'
theorem re_of {L : List Nd} {no : Option Addr} {n nc : Nat} {k : Int} {s : Txt} {i : Int} {keys : List Txt} {ts : Ts} (h9 : k = 9 → binL s ≠ 0) (h8 : k = 8 → s = [45] ∨ s = [110,111,116]) (hlen : (txt (itE (.node k s i keys ts))).length ≤ 1000000000)
  (hb : ∀ kids,Ats L kids ts → ∀ (v : Nv) (W0 : World),NFit W0 v ⟨k,s,i,keys,kids⟩ → NArg W0 no n L → ∀ W,Bel W0 W → Calls Tryz.prog 203 #[.slice no n nc,nodV v] W fun e w' => e = .returned (.string ⟨(txt (itE (.node k s i keys ts))).toArray⟩) ∧ Bel W w') : RE L no n nc (.node k s i keys ts) := by
 intro z hz req W hA
 unfold At at hz
 obtain ⟨kids,hz,hk⟩ := hz
 obtain ⟨hzl,hze⟩ := List.getElem?_eq_some_iff.1 hz
 have := roper_any no n nc z L ⟨k,s,i,keys,kids⟩ (txt (itE (.node k s i keys ts))) hlen hzl hze h9 h8 req W hA (fun v hv W' g => hb kids hk v W hv hA W' g)
 rw [← brk_txt]
 exact this
def AllR9 (L : List Nd) (no : Option Addr) (n nc : Nat) : Ts → Prop
 | .nil => True
 | .cons t r => RE L no n nc t ∧ AllR9 L no n nc r
theorem all_atR {L : List Nd} {no : Option Addr} {n nc : Nat} : ∀ {ts : Ts} {kids : List Int},AllR9 L no n nc ts → Ats L kids ts → ∀ j (h : j < kids.length) (h' : j < ((row ts).map txt).length) (W : World),NArg W no n L →
  Calls Tryz.prog 153 #[.slice no n nc,.int .i64 kids[j],.int .i64 1] W fun e w' => e = .returned (.string ⟨((row ts).map txt)[j].toArray⟩) ∧ Bel W w'
 | .nil,kids,_,ha,j,h,h',W,hA => by
  rw [Ats] at ha
  subst ha
  exact absurd h (Nat.not_lt_zero _)
 | .cons t r,kids,hp,ha,j,h,h',W,hA => by
  rw [Ats] at ha
  rw [AllR9] at hp
  obtain ⟨z,l,rfl,h1,h2⟩ := ha
  have e : (row (.cons t r)).map txt = txt (opd 1 t) :: (row r).map txt := by rw [row_cons,List.map_cons]
  match j,h with
  | 0,_ =>
   have := hp.1 z h1 1 W hA
   simp only [e,List.getElem_cons_zero]
   exact this
  | j + 1,h =>
   have := all_atR hp.2 h2 j (by simpa using h) (by rw [e] at h'; simpa using h') W hA
   simp only [e,List.getElem_cons_succ]
   exact this
theorem asc_all : ∀ {keys : List Txt} {p : Option Txt},ascB p keys = true → ∀ k ∈ keys,strB k = true
 | [],_,_,k,hk => by cases hk
 | x :: r,p,h,k,hk => by
  obtain ⟨h1,h2⟩ := asc_str h
  rcases List.mem_cons.1 hk with rfl | hk
  ·exact h1
  ·exact asc_all h2 k hk
mutual
theorem rE {L : List Nd} {no : Option Addr} {n nc : Nat} : ∀ {t : T},GE t → size t ≤ 1000 → RE L no n nc t
 | _,.null,hs => re_of (fun h => absurd h (by decide)) (fun h => absurd h (by decide)) (leaf_len (len_E .null) hs) fun kids hk v W0 hv hA W g => by
  obtain ⟨k',s',i',ko,kn,kc,jo,jn,jc⟩ := v
  obtain rfl : k' = 1 := hv.k
  obtain rfl : s' = [] := hv.s
  obtain rfl : i' = 0 := hv.i
  have := rwrNull_any no n nc [] 0 ko jo kn kc jn jc W
  rw [show ([110,117,108,108] : Txt) = litT 1 [] 0 from rfl,lit_txt (by decide) .null rfl] at this
  exact this
 | _,.bool i h,hs => re_of (fun h => absurd h (by decide)) (fun h => absurd h (by decide)) (leaf_len (len_E (.bool i h)) hs) fun kids hk v W0 hv hA W g => by
  obtain ⟨k',s',i',ko,kn,kc,jo,jn,jc⟩ := v
  obtain rfl : k' = 2 := hv.k
  obtain rfl : s' = [] := hv.s
  obtain rfl : i' = i := hv.i
  have := rwrBool_any no n nc [] i' ko jo kn kc jn jc h W
  rw [show (if i' = 0 then [102,97,108,115,101] else [116,114,117,101] : Txt) = litT 2 [] i' from by unfold litT; rw [if_pos rfl],lit_txt (by decide) (.bool i' h) rfl] at this
  exact this
 | _,.int i h,hs => re_of (fun h => absurd h (by decide)) (fun h => absurd h (by decide)) (leaf_len (len_E (.int i h)) hs) fun kids hk v W0 hv hA W g => by
  obtain ⟨k',s',i',ko,kn,kc,jo,jn,jc⟩ := v
  obtain rfl : k' = 3 := hv.k
  obtain rfl : s' = [] := hv.s
  obtain rfl : i' = i := hv.i
  have hi : 0 ≤ i' ∧ i' ≤ 1000000000000 := by
   unfold intB tkn Lex.okT at h
   simpa using h
  have := rwrInt_any no n nc [] i' ko jo kn kc jn jc (by omega) W
  rw [show Num.fmtL i' = litT 3 [] i' from (show Num.fmtL i' = Lex.txtT ⟨3,[],i',0⟩ from ((Lex.txt_yes h).1).symm),lit_txt (by decide) (.int i' h) rfl] at this
  exact this
 | _,.str s h,hs => re_of (fun h => absurd h (by decide)) (fun h => absurd h (by decide)) (leaf_len (len_E (.str s h)) hs) fun kids hk v W0 hv hA W g => by
  obtain ⟨k',s',i',ko,kn,kc,jo,jn,jc⟩ := v
  obtain rfl : k' = 4 := hv.k
  obtain rfl : s' = s := hv.s
  obtain rfl : i' = 0 := hv.i
  have := rwrStr_any no n nc s' 0 ko jo kn kc jn jc (by have := (Lex.ok_len h).1; unfold tkn at this; dsimp only at this; omega) W
  rw [show Lex.txtT ⟨4,s',0,0⟩ = litT 4 s' 0 from rfl,lit_txt (by decide) (.str s' h) rfl] at this
  exact this
 | _,.var s h,hs => re_of (fun h => absurd h (by decide)) (fun h => absurd h (by decide)) (leaf_len (len_E (.var s h)) hs) fun kids hk v W0 hv hA W g => by
  obtain ⟨k',s',i',ko,kn,kc,jo,jn,jc⟩ := v
  obtain rfl : k' = 5 := hv.k
  obtain rfl : s' = s := hv.s
  obtain rfl : i' = 0 := hv.i
  have := rwrVar_any no n nc s' 0 ko jo kn kc jn jc W
  have e : (s' : Txt) = txt (itE (leaf 5 s' 0)) := lit_txt (k := 5) (i := 0) (by decide) (.var s' h) rfl
  refine this.mono fun e1 w' q => ⟨?_,q.2⟩
  rw [q.1]
  exact congrArg (fun t : Txt => Ending.returned (.string ⟨t.toArray⟩)) e
 | _,.list ts h,hs => by
  rw [size] at hs
  have hl := row_len (len_Es h)
  have hc := sizes_le ts
  have hp := rEs (L := L) (no := no) (n := n) (nc := nc) h (by omega)
  refine re_of (fun h => absurd h (by decide)) (fun h => absurd h (by decide)) (by have := len_E (.list ts h); rw [size] at this; omega) fun kids hk v W0 hv hA W g => ?_
  obtain ⟨k',s',i',ko,kn,kc,jo,jn,jc⟩ := v
  obtain rfl : k' = 6 := hv.k
  obtain rfl : s' = [] := hv.s
  obtain rfl : i' = 0 := hv.i
  have hkl := ats_len hk
  have hjn : kids.length = jn := hv.kids.1
  have hL := fun W1 (B : Bel W W1) => rrow_any no n nc jo jn jc (by omega) kids ((row ts).map txt) (by rw [List.length_map,row_count]; omega) (by rw [join_row]; omega) W1 (hv.kids.on (Bel.trans g B)) (fun j h1 h2 W2 B2 => all_atR hp hk j h1 h2 W2 (hA.on (Bel.trans (Bel.trans g B) B2)))
  rw [join_row] at hL
  have := rwrSq_any no n nc [] 0 ko jo kn kc jn jc (txt (sep (row ts))) (by omega) W hL
  rw [itE_list,txt_app]
  exact this
 | _,.map keys ts hlk ha h,hs => by
  rw [size] at hs
  have hl := keyed_len (len_Es h) keys none ha
  have hc := sizes_le ts
  have hp := rEs (L := L) (no := no) (n := n) (nc := nc) h (by omega)
  refine re_of (fun h => absurd h (by decide)) (fun h => absurd h (by decide)) (by have := len_E (.map keys ts hlk ha h); rw [size] at this; omega) fun kids hk v W0 hv hA W g => ?_
  have hsk := hv.skeys
  obtain ⟨k',s',i',ko,kn,kc,jo,jn,jc⟩ := v
  obtain rfl : k' = 7 := hv.k
  obtain rfl : s' = [] := hv.s
  obtain rfl : i' = 0 := hv.i
  have hkl := ats_len hk
  have hjn : kids.length = jn := hv.kids.1
  have hkn : keys.length = kn := hsk.1
  obtain rfl : kn = jn := by omega
  have := rwrMap_any no n nc [] 0 ko jo kc kn jc (by omega) kids keys ((row ts).map txt) (by rw [List.length_map,row_count]; omega) (mem_row_len h (by omega)) (fun k hk2 => by have := (Lex.ok_len (asc_all ha k hk2)).1; unfold tkn at this; dsimp only at this; omega) W (hv.kids.on g) (hsk.on g) (fun j h1 h2 W2 B2 => all_atR hp hk j h1 h2 W2 (hA.on (Bel.trans g B2))) (by rw [zip_keyed ts keys none ha hlk,join_row]; omega)
  rw [zip_keyed ts keys none ha hlk,join_row] at this
  rw [itE_map,txt_app]
  exact this
 | _,.una s a hsv h,hs => by
  unfold una at *
  rw [size,sizes,sizes] at hs
  have hp := rE (L := L) (no := no) (n := n) (nc := nc) h (by omega)
  have hla := len_oE h (unaL s)
  have hg : GE (una s a) := .una s a hsv h
  refine re_of (fun h => absurd h (by decide)) (fun _ => hsv) (by have := len_E hg; unfold una at this; rw [size,sizes,sizes] at this; omega) fun kids hk v W0 hv hA W g => ?_
  rw [Ats] at hk
  obtain ⟨z,l,rfl,hz,hl⟩ := hk
  rw [Ats] at hl
  subst hl
  obtain ⟨k',s',i',ko,kn,kc,jo,jn,jc⟩ := v
  obtain rfl : k' = 8 := hv.k
  obtain rfl : s' = s := hv.s
  obtain rfl : i' = 0 := hv.i
  have hjn : 1 = jn := hv.kids.1
  obtain ⟨b,off,rfl,hc⟩ := za_addr hv.kids (show 0 < jn by omega)
  have c0 := hc 0 (by simp)
  rcases hsv with rfl | rfl
  ·have := rwrNeg_any no n nc z 0 ko kn kc jn jc b off (by omega) (txt (opd 7 a)) (by have := len_oE h 7; omega) W (g.cell' c0) (fun W2 B2 => hp z hz 7 W2 (hA.on (Bel.trans g B2)))
   have e : (45 :: txt (opd 7 a) : Txt) = txt (itE (una [45] a)) := by rw [itE_neg]; rfl
   rw [e] at this
   exact this
  ·have := rwrNot_any no n nc z 0 ko kn kc jn jc b off (by omega) (txt (opd 3 a)) (by have := len_oE h 3; omega) W (g.cell' c0) (fun W2 B2 => hp z hz 3 W2 (hA.on (Bel.trans g B2)))
   have e : ([110,111,116,32] ++ txt (opd 3 a) : Txt) = txt (itE (una [110,111,116] a)) := by rw [itE_not]; rfl
   rw [e] at this
   exact this
 | _,.bin s a b hsv h1 h2,hs => by
  unfold bin at *
  rw [size,sizes,sizes,sizes] at hs
  have hp1 := rE (L := L) (no := no) (n := n) (nc := nc) h1 (by omega)
  have hp2 := rE (L := L) (no := no) (n := n) (nc := nc) h2 (by omega)
  have hla := len_oE h1 (leftL (binL s))
  have hlb := len_oE h2 (binL s + 1)
  have hol := op_len hsv
  have hg : GE (bin s a b) := .bin s a b hsv h1 h2
  refine re_of (fun _ => hsv) (fun h => absurd h (by decide)) (by have := len_E hg; unfold bin at this; rw [size,sizes,sizes,sizes] at this; omega) fun kids hk v W0 hv hA W g => ?_
  rw [Ats] at hk
  obtain ⟨z1,l,rfl,hz1,hl⟩ := hk
  rw [Ats] at hl
  obtain ⟨z2,l,rfl,hz2,hl⟩ := hl
  rw [Ats] at hl
  subst hl
  obtain ⟨k',s',i',ko,kn,kc,jo,jn,jc⟩ := v
  obtain rfl : k' = 9 := hv.k
  obtain rfl : s' = s := hv.s
  obtain rfl : i' = 0 := hv.i
  have hjn : 2 = jn := hv.kids.1
  obtain ⟨b,off,rfl,hc⟩ := za_addr hv.kids (show 0 < jn by omega)
  have c0 := hc 0 (by simp)
  have c1 := hc 1 (by simp)
  have := rwrBin_any no n nc z1 z2 s' 0 ko kn kc jn jc b off (by omega) (txt (opd (leftL (binL s')) a)) (txt (opd (binL s' + 1) _)) (by omega) (by omega) (by omega) hsv W (g.cell' c0) (g.cell' c1) (fun W2 B2 => hp1 z1 hz1 (leftL (binL s')) W2 (hA.on (Bel.trans g B2))) (fun W2 B2 => hp2 z2 hz2 (binL s' + 1) W2 (hA.on (Bel.trans g B2)))
  have e := itE_bin s' a ‹T›
  unfold bin at e
  rw [e,txt_app,txt_sp,op_text,txt_sp]
  exact this
 | _,.idx a b h1 h2,hs => by
  unfold idx at *
  rw [size,sizes,sizes,sizes] at hs
  have hp1 := rE (L := L) (no := no) (n := n) (nc := nc) h1 (by omega)
  have hp2 := rE (L := L) (no := no) (n := n) (nc := nc) h2 (by omega)
  have hla := len_oE h1 8
  have hlb := len_oE h2 1
  have hg : GE (idx a b) := .idx a b h1 h2
  refine re_of (fun h => absurd h (by decide)) (fun h => absurd h (by decide)) (by have := len_E hg; unfold idx at this; rw [size,sizes,sizes,sizes] at this; omega) fun kids hk v W0 hv hA W g => ?_
  rw [Ats] at hk
  obtain ⟨z1,l,rfl,hz1,hl⟩ := hk
  rw [Ats] at hl
  obtain ⟨z2,l,rfl,hz2,hl⟩ := hl
  rw [Ats] at hl
  subst hl
  obtain ⟨k',s',i',ko,kn,kc,jo,jn,jc⟩ := v
  obtain rfl : k' = 10 := hv.k
  obtain rfl : s' = [] := hv.s
  obtain rfl : i' = 0 := hv.i
  have hjn : 2 = jn := hv.kids.1
  obtain ⟨bb,off,rfl,hc⟩ := za_addr hv.kids (show 0 < jn by omega)
  have c0 := hc 0 (by simp)
  have c1 := hc 1 (by simp)
  have := rwrIdx_any no n nc z1 z2 [] 0 ko kn kc jn jc bb off (by omega) (txt (opd 8 a)) (txt (opd 1 b)) (by omega) (by omega) W (g.cell' c0) (g.cell' c1) (fun W2 B2 => hp1 z1 hz1 8 W2 (hA.on (Bel.trans g B2))) (fun W2 B2 => hp2 z2 hz2 1 W2 (hA.on (Bel.trans g B2)))
  have e := itE_idx a b
  unfold idx at e
  rw [e,List.append_assoc,txt_app,List.cons_append,txt_s,txt_app]
  exact this
 | _,.call s ts hsv h,hs => by
  rw [size] at hs
  have hl := row_len (len_Es h)
  have hc := sizes_le ts
  have hnl := name_len hsv
  have hp := rEs (L := L) (no := no) (n := n) (nc := nc) h (by omega)
  refine re_of (fun h => absurd h (by decide)) (fun h => absurd h (by decide)) (by have := len_E (.call s ts hsv h); rw [size] at this; omega) fun kids hk v W0 hv hA W g => ?_
  obtain ⟨k',s',i',ko,kn,kc,jo,jn,jc⟩ := v
  obtain rfl : k' = 11 := hv.k
  obtain rfl : s' = s := hv.s
  obtain rfl : i' = 0 := hv.i
  have hkl := ats_len hk
  have hjn : kids.length = jn := hv.kids.1
  have hL := fun W1 (B : Bel W W1) => rrow_any no n nc jo jn jc (by omega) kids ((row ts).map txt) (by rw [List.length_map,row_count]; omega) (by rw [join_row]; omega) W1 (hv.kids.on (Bel.trans g B)) (fun j h1 h2 W2 B2 => all_atR hp hk j h1 h2 W2 (hA.on (Bel.trans (Bel.trans g B) B2)))
  rw [join_row] at hL
  have := rwrCall_any no n nc s' 0 ko jo kn kc jn jc (by omega) (txt (sep (row ts))) (by omega) W hL
  rw [itE_call,txt_app,txt_n,txt_s,List.append_assoc,List.append_assoc]
  exact this
 | _,.host s ts hsv h,hs => by
  rw [size] at hs
  have hl := row_len (len_Es h)
  have hc := sizes_le ts
  have hp := rEs (L := L) (no := no) (n := n) (nc := nc) h (by omega)
  refine re_of (fun h => absurd h (by decide)) (fun h => absurd h (by decide)) (by have := len_E (.host s ts hsv h); rw [size] at this; omega) fun kids hk v W0 hv hA W g => ?_
  obtain ⟨k',s',i',ko,kn,kc,jo,jn,jc⟩ := v
  obtain rfl : k' = 12 := hv.k
  obtain rfl : s' = s := hv.s
  obtain rfl : i' = 0 := hv.i
  have hkl := ats_len hk
  have hjn : kids.length = jn := hv.kids.1
  have hL := fun W1 (B : Bel W W1) => rrow_any no n nc jo jn jc (by omega) kids ((row ts).map txt) (by rw [List.length_map,row_count]; omega) (by rw [join_row]; omega) W1 (hv.kids.on (Bel.trans g B)) (fun j h1 h2 W2 B2 => all_atR hp hk j h1 h2 W2 (hA.on (Bel.trans (Bel.trans g B) B2)))
  rw [join_row] at hL
  have := rwrHost_any no n nc s' 0 ko jo kn kc jn jc (by have := (Lex.ok_len hsv).1; unfold tkn at this; dsimp only at this; omega) (txt (sep (row ts))) (by omega) W hL
  have e : Lex.wrt (tk (6,s',0)) = 64 :: s' := rfl
  rw [itE_host,txt_app,txt_tok,txt_s,List.append_assoc,List.append_assoc,e]
  exact this
theorem rEs {L : List Nd} {no : Option Addr} {n nc : Nat} : ∀ {ts : Ts},GEs ts → sizes ts ≤ 1000 → AllR9 L no n nc ts
 | _,.nil,_ => by rw [AllR9]; trivial
 | _,.cons t r h hr,hs => by
  rw [sizes] at hs
  rw [AllR9]
  exact ⟨rE h (by omega),rEs hr (by omega)⟩
end
theorem rst13_any (no : Option Addr) (n nc : Nat) (s : Txt) (i : Int) (ko : Option Addr) (kn kc jc bj oj q0 d : Nat) (X : Txt) (hs : s.length ≤ 1000000000) (hX : X.length ≤ 1000000000) (w : World) (hz0 : w.cell? ⟨bj,oj,none⟩ = some (.int .i64 (q0 : Int)))
  (hE : ∀ W,Bel w W → Calls Tryz.prog 153 #[.slice no n nc,.int .i64 (q0 : Int),.int .i64 1] W fun e w' => e = .returned (.string ⟨X.toArray⟩) ∧ Bel W w') :
  Calls Tryz.prog 97 #[.slice no n nc,.agg #[.int .i64 13,.string ⟨s.toArray⟩,.int .i64 i,.slice ko kn kc,.slice (some ⟨bj,oj,none⟩) 1 jc],.int .i64 (d : Int)] w fun e w' => e = .returned (.string ⟨([108,101,116,32] ++ (s ++ ([32,61,32] ++ (X ++ [59])))).toArray⟩) ∧ Bel w w' := by
 obtain ⟨V,hV⟩ : ∃ V,w.alloc (.cells #[.int .i64 13,.string ⟨s.toArray⟩,.int .i64 i,.slice ko kn kc,.slice (some ⟨bj,oj,none⟩) 1 jc] 65) = V := ⟨_,rfl⟩
 have BV : Bel w V := by rw [← hV]; exact Bel.alloc (Bel.refl w) _
 obtain ⟨y0,y1,y2,y3,y4⟩ : V.cell? ⟨w.heap.size,0,none⟩ = some (.int .i64 13) ∧ V.cell? ⟨w.heap.size,1,none⟩ = some (.string ⟨s.toArray⟩) ∧ V.cell? ⟨w.heap.size,2,none⟩ = some (.int .i64 i) ∧ V.cell? ⟨w.heap.size,3,none⟩ = some (.slice ko kn kc) ∧ V.cell? ⟨w.heap.size,4,none⟩ = some (.slice (some ⟨bj,oj,none⟩) 1 jc) := by rw [← hV]; exact box5 w _ _ _ _ _ _
 have HB := Lib.hid BV
 have HVe := Lib.hid hV
 have HE := Lib.hid (hE V BV)
 have c0 := BV.cell' hz0
 rw [← hV] at c0
 have f0 : (9223372036854775807 < 4 + s.length) = False := eq_false (by omega)
 have f1 : (9223372036854775807 < 4 + s.length + 3) = False := eq_false (by omega)
 have f2 : (9223372036854775807 < 4 + s.length + 3 + X.length) = False := eq_false (by omega)
 have f3 : (9223372036854775807 < 4 + s.length + 3 + X.length + 1) = False := eq_false (by omega)
 clear hE hs hX hz0 BV hV
 go_enter Tryz.func97,Tryz.ntmps97
 go_wp2_with fail
 rw [HVe.out]
 refine HE.out.mono ?_
 rintro e w2 ⟨rfl,g⟩
 have z0 := g.cell' y0
 have z1 := g.cell' y1
 have z4 := g.cell' y4
 have G := Lib.hid g
 clear g y0 y1 y2 y3 y4 c0
 go_wp2_with fail
 go_ret
 exact ⟨by simp [ByteArray.ext_iff],Bel.trans HB.out G.out⟩
theorem rst14_any (no : Option Addr) (n nc : Nat) (s : Txt) (i : Int) (ko : Option Addr) (kn kc jc bj oj q0 d : Nat) (X : Txt) (hs : s.length ≤ 1000000000) (hX : X.length ≤ 1000000000) (w : World) (hz0 : w.cell? ⟨bj,oj,none⟩ = some (.int .i64 (q0 : Int)))
  (hE : ∀ W,Bel w W → Calls Tryz.prog 153 #[.slice no n nc,.int .i64 (q0 : Int),.int .i64 1] W fun e w' => e = .returned (.string ⟨X.toArray⟩) ∧ Bel W w') :
  Calls Tryz.prog 97 #[.slice no n nc,.agg #[.int .i64 14,.string ⟨s.toArray⟩,.int .i64 i,.slice ko kn kc,.slice (some ⟨bj,oj,none⟩) 1 jc],.int .i64 (d : Int)] w fun e w' => e = .returned (.string ⟨(s ++ ([32,61,32] ++ (X ++ [59]))).toArray⟩) ∧ Bel w w' := by
 obtain ⟨V,hV⟩ : ∃ V,w.alloc (.cells #[.int .i64 14,.string ⟨s.toArray⟩,.int .i64 i,.slice ko kn kc,.slice (some ⟨bj,oj,none⟩) 1 jc] 65) = V := ⟨_,rfl⟩
 have BV : Bel w V := by rw [← hV]; exact Bel.alloc (Bel.refl w) _
 obtain ⟨y0,y1,y2,y3,y4⟩ : V.cell? ⟨w.heap.size,0,none⟩ = some (.int .i64 14) ∧ V.cell? ⟨w.heap.size,1,none⟩ = some (.string ⟨s.toArray⟩) ∧ V.cell? ⟨w.heap.size,2,none⟩ = some (.int .i64 i) ∧ V.cell? ⟨w.heap.size,3,none⟩ = some (.slice ko kn kc) ∧ V.cell? ⟨w.heap.size,4,none⟩ = some (.slice (some ⟨bj,oj,none⟩) 1 jc) := by rw [← hV]; exact box5 w _ _ _ _ _ _
 have HB := Lib.hid BV
 have HVe := Lib.hid hV
 have HE := Lib.hid (hE V BV)
 have c0 := BV.cell' hz0
 rw [← hV] at c0
 have f0 : (9223372036854775807 < s.length + 3) = False := eq_false (by omega)
 have f1 : (9223372036854775807 < s.length + 3 + X.length) = False := eq_false (by omega)
 have f2 : (9223372036854775807 < s.length + 3 + X.length + 1) = False := eq_false (by omega)
 clear hE hs hX hz0 BV hV
 go_enter Tryz.func97,Tryz.ntmps97
 go_wp2_with fail
 rw [HVe.out]
 refine HE.out.mono ?_
 rintro e w2 ⟨rfl,g⟩
 have z0 := g.cell' y0
 have z1 := g.cell' y1
 have z4 := g.cell' y4
 have G := Lib.hid g
 clear g y0 y1 y2 y3 y4 c0
 go_wp2_with fail
 go_ret
 exact ⟨by simp [ByteArray.ext_iff],Bel.trans HB.out G.out⟩
theorem rst15_any (no : Option Addr) (n nc : Nat) (s : Txt) (i : Int) (ko : Option Addr) (kn kc jc bj oj q0 q1 d : Nat) (X B1 : Txt) (hX : X.length ≤ 1000000000) (hB1 : B1.length ≤ 1000000000) (w : World) (hz0 : w.cell? ⟨bj,oj,none⟩ = some (.int .i64 (q0 : Int))) (hz1 : w.cell? ⟨bj,oj + 1,none⟩ = some (.int .i64 (q1 : Int)))
  (hE : ∀ W,Bel w W → Calls Tryz.prog 153 #[.slice no n nc,.int .i64 (q0 : Int),.int .i64 1] W fun e w' => e = .returned (.string ⟨X.toArray⟩) ∧ Bel W w')
  (hC1 : ∀ W,Bel w W → Calls Tryz.prog 48 #[.slice no n nc,.int .i64 (q1 : Int),.int .i64 (d : Int)] W fun e w' => e = .returned (.string ⟨B1.toArray⟩) ∧ Bel W w') :
  Calls Tryz.prog 97 #[.slice no n nc,.agg #[.int .i64 15,.string ⟨s.toArray⟩,.int .i64 i,.slice ko kn kc,.slice (some ⟨bj,oj,none⟩) 2 jc],.int .i64 (d : Int)] w fun e w' => e = .returned (.string ⟨([105,102,32] ++ (X ++ 32 :: B1)).toArray⟩) ∧ Bel w w' := by
 obtain ⟨V,hV⟩ : ∃ V,w.alloc (.cells #[.int .i64 15,.string ⟨s.toArray⟩,.int .i64 i,.slice ko kn kc,.slice (some ⟨bj,oj,none⟩) 2 jc] 65) = V := ⟨_,rfl⟩
 have BV : Bel w V := by rw [← hV]; exact Bel.alloc (Bel.refl w) _
 obtain ⟨y0,y1,y2,y3,y4⟩ : V.cell? ⟨w.heap.size,0,none⟩ = some (.int .i64 15) ∧ V.cell? ⟨w.heap.size,1,none⟩ = some (.string ⟨s.toArray⟩) ∧ V.cell? ⟨w.heap.size,2,none⟩ = some (.int .i64 i) ∧ V.cell? ⟨w.heap.size,3,none⟩ = some (.slice ko kn kc) ∧ V.cell? ⟨w.heap.size,4,none⟩ = some (.slice (some ⟨bj,oj,none⟩) 2 jc) := by rw [← hV]; exact box5 w _ _ _ _ _ _
 have HB := Lib.hid BV
 have HVe := Lib.hid hV
 have HE := Lib.hid (hE V BV)
 have HC1 := Lib.hid (fun W (g : Bel V W) => hC1 W (Bel.trans BV g))
 have c0 := BV.cell' hz0
 rw [← hV] at c0
 have c1 := BV.cell' hz1
 have f0 : (9223372036854775807 < 3 + X.length) = False := eq_false (by omega)
 have f1 : (9223372036854775807 < 3 + X.length + 1) = False := eq_false (by omega)
 have f2 : (9223372036854775807 < 3 + X.length + 1 + B1.length) = False := eq_false (by omega)
 clear hE hC1 hB1 hz1 hX hz0 BV hV
 go_enter Tryz.func97,Tryz.ntmps97
 go_wp2_with fail
 rw [HVe.out]
 refine HE.out.mono ?_
 rintro e w2 ⟨rfl,g⟩
 have z0 := g.cell' y0
 have z1 := g.cell' y1
 have z4 := g.cell' y4
 have d1 := g.cell' c1
 have G := Lib.hid g
 clear g y0 y1 y2 y3 y4 c0 c1
 go_wp2_with fail
 refine (HC1.out _ G.out).mono ?_
 rintro e w3 ⟨rfl,g⟩
 replace G := Lib.hid (Bel.trans G.out g)
 replace z4 := g.cell' z4
 clear g
 go_wp2_with fail
 go_ret
 exact ⟨by simp [ByteArray.ext_iff],Bel.trans HB.out G.out⟩
theorem rst15e_any (no : Option Addr) (n nc : Nat) (s : Txt) (i : Int) (ko : Option Addr) (kn kc jc bj oj q0 q1 q2 d : Nat) (X B1 B2 : Txt) (hX : X.length ≤ 1000000000) (hB1 : B1.length ≤ 1000000000) (hB2 : B2.length ≤ 1000000000) (w : World) (hz0 : w.cell? ⟨bj,oj,none⟩ = some (.int .i64 (q0 : Int))) (hz1 : w.cell? ⟨bj,oj + 1,none⟩ = some (.int .i64 (q1 : Int))) (hz2 : w.cell? ⟨bj,oj + 2,none⟩ = some (.int .i64 (q2 : Int)))
  (hE : ∀ W,Bel w W → Calls Tryz.prog 153 #[.slice no n nc,.int .i64 (q0 : Int),.int .i64 1] W fun e w' => e = .returned (.string ⟨X.toArray⟩) ∧ Bel W w')
  (hC1 : ∀ W,Bel w W → Calls Tryz.prog 48 #[.slice no n nc,.int .i64 (q1 : Int),.int .i64 (d : Int)] W fun e w' => e = .returned (.string ⟨B1.toArray⟩) ∧ Bel W w')
  (hC2 : ∀ W,Bel w W → Calls Tryz.prog 48 #[.slice no n nc,.int .i64 (q2 : Int),.int .i64 (d : Int)] W fun e w' => e = .returned (.string ⟨B2.toArray⟩) ∧ Bel W w') :
  Calls Tryz.prog 97 #[.slice no n nc,.agg #[.int .i64 15,.string ⟨s.toArray⟩,.int .i64 i,.slice ko kn kc,.slice (some ⟨bj,oj,none⟩) 3 jc],.int .i64 (d : Int)] w fun e w' => e = .returned (.string ⟨([105,102,32] ++ (X ++ 32 :: (B1 ++ ([32,101,108,115,101,32] ++ B2)))).toArray⟩) ∧ Bel w w' := by
 obtain ⟨V,hV⟩ : ∃ V,w.alloc (.cells #[.int .i64 15,.string ⟨s.toArray⟩,.int .i64 i,.slice ko kn kc,.slice (some ⟨bj,oj,none⟩) 3 jc] 65) = V := ⟨_,rfl⟩
 have BV : Bel w V := by rw [← hV]; exact Bel.alloc (Bel.refl w) _
 obtain ⟨y0,y1,y2,y3,y4⟩ : V.cell? ⟨w.heap.size,0,none⟩ = some (.int .i64 15) ∧ V.cell? ⟨w.heap.size,1,none⟩ = some (.string ⟨s.toArray⟩) ∧ V.cell? ⟨w.heap.size,2,none⟩ = some (.int .i64 i) ∧ V.cell? ⟨w.heap.size,3,none⟩ = some (.slice ko kn kc) ∧ V.cell? ⟨w.heap.size,4,none⟩ = some (.slice (some ⟨bj,oj,none⟩) 3 jc) := by rw [← hV]; exact box5 w _ _ _ _ _ _
 have HB := Lib.hid BV
 have HVe := Lib.hid hV
 have HE := Lib.hid (hE V BV)
 have HC1 := Lib.hid (fun W (g : Bel V W) => hC1 W (Bel.trans BV g))
 have HC2 := Lib.hid (fun W (g : Bel V W) => hC2 W (Bel.trans BV g))
 have c0 := BV.cell' hz0
 rw [← hV] at c0
 have c1 := BV.cell' hz1
 have c2 := BV.cell' hz2
 have f0 : (9223372036854775807 < 3 + X.length) = False := eq_false (by omega)
 have f1 : (9223372036854775807 < 3 + X.length + 1) = False := eq_false (by omega)
 have f2 : (9223372036854775807 < 3 + X.length + 1 + B1.length) = False := eq_false (by omega)
 have f3 : (9223372036854775807 < 3 + X.length + 1 + B1.length + 6) = False := eq_false (by omega)
 have f4 : (9223372036854775807 < 3 + X.length + 1 + B1.length + 6 + B2.length) = False := eq_false (by omega)
 clear hE hC1 hB1 hz1 hC2 hB2 hz2 hX hz0 BV hV
 go_enter Tryz.func97,Tryz.ntmps97
 go_wp2_with fail
 rw [HVe.out]
 refine HE.out.mono ?_
 rintro e w2 ⟨rfl,g⟩
 have z0 := g.cell' y0
 have z1 := g.cell' y1
 have z4 := g.cell' y4
 have d1 := g.cell' c1
 have d2 := g.cell' c2
 have G := Lib.hid g
 clear g y0 y1 y2 y3 y4 c0 c1 c2
 go_wp2_with fail
 refine (HC1.out _ G.out).mono ?_
 rintro e w3 ⟨rfl,g⟩
 replace G := Lib.hid (Bel.trans G.out g)
 replace z4 := g.cell' z4
 replace d2 := g.cell' d2
 clear g
 go_wp2_with fail
 refine (HC2.out _ G.out).mono ?_
 rintro e w4 ⟨rfl,g⟩
 replace G := Lib.hid (Bel.trans G.out g)
 replace z4 := g.cell' z4
 clear g
 go_wp2_with fail
 go_ret
 exact ⟨by simp [ByteArray.ext_iff],Bel.trans HB.out G.out⟩
theorem rst16_any (no : Option Addr) (n nc : Nat) (s : Txt) (i : Int) (ko : Option Addr) (kn kc jc bj oj q0 q1 d : Nat) (X B1 : Txt) (hX : X.length ≤ 1000000000) (hB1 : B1.length ≤ 1000000000) (w : World) (hz0 : w.cell? ⟨bj,oj,none⟩ = some (.int .i64 (q0 : Int))) (hz1 : w.cell? ⟨bj,oj + 1,none⟩ = some (.int .i64 (q1 : Int)))
  (hE : ∀ W,Bel w W → Calls Tryz.prog 153 #[.slice no n nc,.int .i64 (q0 : Int),.int .i64 1] W fun e w' => e = .returned (.string ⟨X.toArray⟩) ∧ Bel W w')
  (hC1 : ∀ W,Bel w W → Calls Tryz.prog 48 #[.slice no n nc,.int .i64 (q1 : Int),.int .i64 (d : Int)] W fun e w' => e = .returned (.string ⟨B1.toArray⟩) ∧ Bel W w') :
  Calls Tryz.prog 97 #[.slice no n nc,.agg #[.int .i64 16,.string ⟨s.toArray⟩,.int .i64 i,.slice ko kn kc,.slice (some ⟨bj,oj,none⟩) 2 jc],.int .i64 (d : Int)] w fun e w' => e = .returned (.string ⟨([119,104,105,108,101,32] ++ (X ++ 32 :: B1)).toArray⟩) ∧ Bel w w' := by
 obtain ⟨V,hV⟩ : ∃ V,w.alloc (.cells #[.int .i64 16,.string ⟨s.toArray⟩,.int .i64 i,.slice ko kn kc,.slice (some ⟨bj,oj,none⟩) 2 jc] 65) = V := ⟨_,rfl⟩
 have BV : Bel w V := by rw [← hV]; exact Bel.alloc (Bel.refl w) _
 obtain ⟨y0,y1,y2,y3,y4⟩ : V.cell? ⟨w.heap.size,0,none⟩ = some (.int .i64 16) ∧ V.cell? ⟨w.heap.size,1,none⟩ = some (.string ⟨s.toArray⟩) ∧ V.cell? ⟨w.heap.size,2,none⟩ = some (.int .i64 i) ∧ V.cell? ⟨w.heap.size,3,none⟩ = some (.slice ko kn kc) ∧ V.cell? ⟨w.heap.size,4,none⟩ = some (.slice (some ⟨bj,oj,none⟩) 2 jc) := by rw [← hV]; exact box5 w _ _ _ _ _ _
 have HB := Lib.hid BV
 have HVe := Lib.hid hV
 have HE := Lib.hid (hE V BV)
 have HC1 := Lib.hid (fun W (g : Bel V W) => hC1 W (Bel.trans BV g))
 have c0 := BV.cell' hz0
 rw [← hV] at c0
 have c1 := BV.cell' hz1
 have f0 : (9223372036854775807 < 6 + X.length) = False := eq_false (by omega)
 have f1 : (9223372036854775807 < 6 + X.length + 1) = False := eq_false (by omega)
 have f2 : (9223372036854775807 < 6 + X.length + 1 + B1.length) = False := eq_false (by omega)
 clear hE hC1 hB1 hz1 hX hz0 BV hV
 go_enter Tryz.func97,Tryz.ntmps97
 go_wp2_with fail
 rw [HVe.out]
 refine HE.out.mono ?_
 rintro e w2 ⟨rfl,g⟩
 have z0 := g.cell' y0
 have z1 := g.cell' y1
 have z4 := g.cell' y4
 have d1 := g.cell' c1
 have G := Lib.hid g
 clear g y0 y1 y2 y3 y4 c0 c1
 go_wp2_with fail
 refine (HC1.out _ G.out).mono ?_
 rintro e w3 ⟨rfl,g⟩
 replace G := Lib.hid (Bel.trans G.out g)
 replace z4 := g.cell' z4
 clear g
 go_wp2_with fail
 go_ret
 exact ⟨by simp [ByteArray.ext_iff],Bel.trans HB.out G.out⟩
theorem rst17_any (no : Option Addr) (n nc : Nat) (s : Txt) (i : Int) (ko : Option Addr) (kn kc jc bj oj q0 d : Nat) (X : Txt) (hX : X.length ≤ 1000000000) (w : World) (hz0 : w.cell? ⟨bj,oj,none⟩ = some (.int .i64 (q0 : Int)))
  (hE : ∀ W,Bel w W → Calls Tryz.prog 153 #[.slice no n nc,.int .i64 (q0 : Int),.int .i64 1] W fun e w' => e = .returned (.string ⟨X.toArray⟩) ∧ Bel W w') :
  Calls Tryz.prog 97 #[.slice no n nc,.agg #[.int .i64 17,.string ⟨s.toArray⟩,.int .i64 i,.slice ko kn kc,.slice (some ⟨bj,oj,none⟩) 1 jc],.int .i64 (d : Int)] w fun e w' => e = .returned (.string ⟨([114,101,116,117,114,110,32] ++ (X ++ [59])).toArray⟩) ∧ Bel w w' := by
 obtain ⟨V,hV⟩ : ∃ V,w.alloc (.cells #[.int .i64 17,.string ⟨s.toArray⟩,.int .i64 i,.slice ko kn kc,.slice (some ⟨bj,oj,none⟩) 1 jc] 65) = V := ⟨_,rfl⟩
 have BV : Bel w V := by rw [← hV]; exact Bel.alloc (Bel.refl w) _
 obtain ⟨y0,y1,y2,y3,y4⟩ : V.cell? ⟨w.heap.size,0,none⟩ = some (.int .i64 17) ∧ V.cell? ⟨w.heap.size,1,none⟩ = some (.string ⟨s.toArray⟩) ∧ V.cell? ⟨w.heap.size,2,none⟩ = some (.int .i64 i) ∧ V.cell? ⟨w.heap.size,3,none⟩ = some (.slice ko kn kc) ∧ V.cell? ⟨w.heap.size,4,none⟩ = some (.slice (some ⟨bj,oj,none⟩) 1 jc) := by rw [← hV]; exact box5 w _ _ _ _ _ _
 have HB := Lib.hid BV
 have HVe := Lib.hid hV
 have HE := Lib.hid (hE V BV)
 have c0 := BV.cell' hz0
 rw [← hV] at c0
 have f0 : (9223372036854775807 < 7 + X.length) = False := eq_false (by omega)
 have f1 : (9223372036854775807 < 7 + X.length + 1) = False := eq_false (by omega)
 clear hE hX hz0 BV hV
 go_enter Tryz.func97,Tryz.ntmps97
 go_wp2_with fail
 rw [HVe.out]
 refine HE.out.mono ?_
 rintro e w2 ⟨rfl,g⟩
 have z0 := g.cell' y0
 have z1 := g.cell' y1
 have z4 := g.cell' y4
 have G := Lib.hid g
 clear g y0 y1 y2 y3 y4 c0
 go_wp2_with fail
 go_ret
 exact ⟨by simp [ByteArray.ext_iff],Bel.trans HB.out G.out⟩
theorem rst18_any (no : Option Addr) (n nc : Nat) (s : Txt) (i : Int) (ko : Option Addr) (kn kc jc bj oj q0 d : Nat) (X : Txt) (hX : X.length ≤ 1000000000) (w : World) (hz0 : w.cell? ⟨bj,oj,none⟩ = some (.int .i64 (q0 : Int)))
  (hE : ∀ W,Bel w W → Calls Tryz.prog 153 #[.slice no n nc,.int .i64 (q0 : Int),.int .i64 1] W fun e w' => e = .returned (.string ⟨X.toArray⟩) ∧ Bel W w') :
  Calls Tryz.prog 97 #[.slice no n nc,.agg #[.int .i64 18,.string ⟨s.toArray⟩,.int .i64 i,.slice ko kn kc,.slice (some ⟨bj,oj,none⟩) 1 jc],.int .i64 (d : Int)] w fun e w' => e = .returned (.string ⟨(X ++ [59]).toArray⟩) ∧ Bel w w' := by
 obtain ⟨V,hV⟩ : ∃ V,w.alloc (.cells #[.int .i64 18,.string ⟨s.toArray⟩,.int .i64 i,.slice ko kn kc,.slice (some ⟨bj,oj,none⟩) 1 jc] 65) = V := ⟨_,rfl⟩
 have BV : Bel w V := by rw [← hV]; exact Bel.alloc (Bel.refl w) _
 obtain ⟨y0,y1,y2,y3,y4⟩ : V.cell? ⟨w.heap.size,0,none⟩ = some (.int .i64 18) ∧ V.cell? ⟨w.heap.size,1,none⟩ = some (.string ⟨s.toArray⟩) ∧ V.cell? ⟨w.heap.size,2,none⟩ = some (.int .i64 i) ∧ V.cell? ⟨w.heap.size,3,none⟩ = some (.slice ko kn kc) ∧ V.cell? ⟨w.heap.size,4,none⟩ = some (.slice (some ⟨bj,oj,none⟩) 1 jc) := by rw [← hV]; exact box5 w _ _ _ _ _ _
 have HB := Lib.hid BV
 have HVe := Lib.hid hV
 have HE := Lib.hid (hE V BV)
 have c0 := BV.cell' hz0
 rw [← hV] at c0
 have f0 : (9223372036854775807 < X.length + 1) = False := eq_false (by omega)
 clear hE hX hz0 BV hV
 go_enter Tryz.func97,Tryz.ntmps97
 go_wp2_with fail
 rw [HVe.out]
 refine HE.out.mono ?_
 rintro e w2 ⟨rfl,g⟩
 have z0 := g.cell' y0
 have z1 := g.cell' y1
 have z4 := g.cell' y4
 have G := Lib.hid g
 clear g y0 y1 y2 y3 y4 c0
 go_wp2_with fail
 go_ret
 exact ⟨by simp [ByteArray.ext_iff],Bel.trans HB.out G.out⟩
theorem tabs_rep : ∀ d : Nat,txt (tabs d) = List.replicate d 9
 | 0 => rfl
 | d + 1 => by
  have e : txt (tabs (d + 1)) = 9 :: txt (tabs d) := rfl
  rw [e,tabs_rep d]
  rfl
theorem rep_snoc (d : Nat) : List.replicate (d + 1) (9 : UInt8) = List.replicate d 9 ++ [9] := by rw [List.replicate_succ']
theorem accB_at (I : Txt) (S : List Txt) (q : Nat) (h : q < S.length) : accB I (S.take (q + 1)) = accB I (S.take q) ++ (I ++ ([9] ++ (S[q] ++ [10]))) := by rw [List.take_succ_eq_append_getElem h,accB_snoc]
theorem accB_le (I : Txt) (S : List Txt) (q : Nat) (h : q < S.length) : (accB I (S.take q)).length + (I.length + 1 + S[q].length + 1) ≤ (accB I S).length := by
 have h1 := accB_mono I S (q + 1)
 rw [accB_at I S q h] at h1
 simp only [List.length_append,List.length_cons,List.length_nil] at h1
 omega
theorem rblk_any (no : Option Addr) (n nc z : Nat) (L : List Nd) (k : Int) (s : Txt) (i : Int) (keys : List Txt) (kids : List Int) (hz : L[z]? = some ⟨k,s,i,keys,kids⟩) (hkm : kids.length ≤ 100000) (d : Nat) (hd : d ≤ 100000) (S : List Txt) (hS : S.length = kids.length) (hT : (accB (List.replicate d 9) S).length ≤ 1000000000) (w : World) (hA : NArg w no n L)
  (hs : ∀ j (h : j < kids.length) (h' : j < S.length),∃ y : Nat,kids[j] = (y : Int) ∧ ∃ x,L[y]? = some x ∧ ∀ v W,NFit w v x → Bel w W → Calls Tryz.prog 97 #[.slice no n nc,nodV v,.int .i64 ((d + 1 : Nat) : Int)] W fun e w' => e = .returned (.string ⟨S[j].toArray⟩) ∧ Bel W w') :
  Calls Tryz.prog 48 #[.slice no n nc,.int .i64 (z : Int),.int .i64 (d : Int)] w fun e w' => e = .returned (.string ⟨(accB (List.replicate d 9) S ++ (List.replicate d 9 ++ [125])).toArray⟩) ∧ Bel w w' := by
 obtain ⟨hzl,hze⟩ := List.getElem?_eq_some_iff.1 hz
 have hn := hA.1
 obtain ⟨b,off,rfl,hcs⟩ := hA.2 (by omega)
 obtain ⟨v,hv,hcc⟩ := hcs z hzl
 rw [hze] at hv
 obtain ⟨vk,vs,vi,ko,kn,kc,jo,jn,jc⟩ := v
 have hZ : ZArg w jo jn kids := hv.kids
 have c4 : w.cell? ⟨b,off + z * 5 + 4,none⟩ = some (.slice jo jn jc) := by simpa using hcc 4 _ rfl
 have hkl := hZ.1
 have hjb : jn ≤ 100000 := by omega
 have hzn : (z : Int) < (n : Int) := by omega
 have hz0 : (0 : Int) ≤ (z : Int) := by omega
 have HZ := Lib.hid hZ
 have HK := Lib.hid hkl
 have HSn := Lib.hid hS
 have HT := Lib.hid hT
 have HC := Lib.hid hs
 have HN := Lib.hid (show ∀ (y : Nat) (x : Nd),L[y]? = some x → y < n ∧ ∃ v,NFit w v x ∧ w.cell? ⟨b,off + y * 5,none⟩ = some (.int .i64 v.k) ∧ w.cell? ⟨b,off + y * 5 + 1,none⟩ = some (.string ⟨v.s.toArray⟩) ∧ w.cell? ⟨b,off + y * 5 + 2,none⟩ = some (.int .i64 v.i) ∧ w.cell? ⟨b,off + y * 5 + 3,none⟩ = some (.slice v.ko v.kn v.kc) ∧ w.cell? ⟨b,off + y * 5 + 4,none⟩ = some (.slice v.jo v.jn v.jc) from fun y x hx => by
  obtain ⟨hyl,hye⟩ := List.getElem?_eq_some_iff.1 hx
  obtain ⟨v,hv,hcc⟩ := hcs y hyl
  rw [hye] at hv
  exact ⟨by omega,v,hv,by simpa using hcc 0 _ rfl,by simpa using hcc 1 _ rfl,by simpa using hcc 2 _ rfl,by simpa using hcc 3 _ rfl,by simpa using hcc 4 _ rfl⟩)
 have HB0 := Lib.hid (Bel.refl w)
 have Hd := Lib.hid hd
 have Hc4 := Lib.hid c4
 have hw : IntKind.i64.wrap ((d : Int) + 1) = (d : Int) + 1 := by rw [IntKind.wrap_i64]; omega
 have HTa := Lib.hid (fun W => rtabs_any d (by omega) W)
 have HT1 := Lib.hid (fun W => rtabs_any (d + 1) (by omega) W)
 rw [show ((d + 1 : Nat) : Int) = (d : Int) + 1 from rfl] at HT1
 obtain ⟨Tb,hTb⟩ : ∃ Tb : ByteArray,(⟨(List.replicate (d + 1) (9 : UInt8)).toArray⟩ : ByteArray) = Tb := ⟨_,rfl⟩
 obtain ⟨Ta,hTa⟩ : ∃ Ta : ByteArray,(⟨(List.replicate d (9 : UInt8)).toArray⟩ : ByteArray) = Ta := ⟨_,rfl⟩
 have hTbl : Tb.toList = List.replicate d 9 ++ [9] := by rw [← hTb,← rep_snoc]; exact tlB _
 have hTal : Ta.toList = List.replicate d 9 := by rw [← hTa]; exact tlB _
 have hTbs : Tb.size ≤ 100001 := by rw [← Lex.toL_len,hTbl]; simp; omega
 have hTas : Ta.size ≤ 100000 := by rw [← Lex.toL_len,hTal]; simp; omega
 rw [hTb] at HT1
 rw [hTa] at HTa
 have HTbl := Lib.hid hTbl
 have HTal := Lib.hid hTal
 have hrl : (List.replicate d (9 : UInt8)).length = d := List.length_replicate
 generalize List.replicate d (9 : UInt8) = I at *
 have HI := Lib.hid hrl
 clear hz hze hcs hcc hv hA hZ hkl hkm hs hS hT hTb hTa hTbl hTal hzl hn hrl c4 hd
 go_enter Tryz.func48,Tryz.ntmps48
 go_wp2_with fail
 go_loopw [7,8] (fun tv iv wr => ∃ (q : Nat) (T : ByteArray),tv = .string T ∧ iv = .int .i64 (q : Int) ∧ q ≤ jn ∧ Hid (T.toList = accB I (S.take q)) ∧ Hid (Bel w wr)) (fun _ iv _ => jn - (intOf iv).toNat)
 case atStart => exact ⟨0,_,rfl,rfl,Nat.zero_le _,Lib.hid (by rw [List.take_zero]; exact tlB _),HB0⟩
 case round =>
  obtain ⟨q,T,rfl,rfl,hq,hTl,HBr⟩ := hrel
  rename World => wr
  have e4 := HBr.out.cell' Hc4.out
  have hTs : T.size ≤ 1000000000 := by rw [← Lex.toL_len,hTl.out]; exact Nat.le_trans (accB_mono I S q) HT.out
  have hds := Hd.out
  by_cases hqm : q < jn
  ·have hql : q < kids.length := by rw [HK.out]; exact hqm
   have hqs : q < S.length := by rw [HSn.out]; exact hql
   obtain ⟨kb,kf,rfl,hkc⟩ := za_addr HZ.out (by omega)
   obtain ⟨y,hy,x,hx,hsc⟩ := HC.out q hql hqs
   obtain ⟨hyn,v,hv,g0,g1,g2,g3,g4⟩ := HN.out y x hx
   replace g0 := HBr.out.cell' g0
   replace g1 := HBr.out.cell' g1
   replace g2 := HBr.out.cell' g2
   replace g3 := HBr.out.cell' g3
   replace g4 := HBr.out.cell' g4
   have c0 := HBr.out.cell' (hkc q hql)
   rw [hy] at c0
   have HT0 := Lib.hid HT1.out
   have HS0 := Lib.hid (fun W (g : Bel wr W) => hsc v W hv (Bel.trans HBr.out g))
   unfold nodV at HS0
   rw [show ((d + 1 : Nat) : Int) = (d : Int) + 1 from rfl] at HS0
   have hle := accB_le I S q hqs
   have hle2 := HT.out
   have hjt := accB_at I S q hqs
   obtain ⟨xb,hxb⟩ : ∃ xb : ByteArray,⟨S[q].toArray⟩ = xb := ⟨_,rfl⟩
   have hxs : xb.size ≤ 1000000000 := by rw [← hxb,← Lex.toL_len,tlB]; omega
   have hxl : xb.toList = S[q] := by rw [← hxb]; exact tlB _
   rw [hxb] at HS0
   rw [← hxl,← hTl.out] at hjt
   have HT2 := Lib.hid (show (T ++ Tb ++ xb ++ ⟨#[10]⟩).toList = accB I (S.take (q + 1)) by
    have hb := HTbl.out
    rw [hjt]
    simp [Go.ByteArray.toList_eq] at hb ⊢
    simp [hb])
   have f1 : (9223372036854775807 < T.size + Tb.size) = False := eq_false (by omega)
   have f2 : (9223372036854775807 < T.size + Tb.size + xb.size) = False := eq_false (by omega)
   have f3 : (9223372036854775807 < T.size + Tb.size + xb.size + 1) = False := eq_false (by omega)
   have hq1 : (q : Int) < (jn : Int) := by omega
   have hq0 : (0 : Int) ≤ (q : Int) := by omega
   have hy1 : (y : Int) < (n : Int) := by omega
   have hy0 : (0 : Int) ≤ (y : Int) := by omega
   clear hkc hy hx hsc hv hle hle2 hjt hxb hxs hxl hql hqs hTl hTs
   have HT := Lib.hid (show ∀ W,(W.cell? ⟨b,off + z * 5 + 4,none⟩ = some (.slice (some ⟨kb,kf,none⟩) jn jc) ∧ W.cell? ⟨kb,kf + q,none⟩ = some (.int .i64 (y : Int)) ∧ W.cell? ⟨b,off + y * 5,none⟩ = some (.int .i64 v.k) ∧ W.cell? ⟨b,off + y * 5 + 1,none⟩ = some (.string ⟨v.s.toArray⟩) ∧ W.cell? ⟨b,off + y * 5 + 2,none⟩ = some (.int .i64 v.i) ∧ W.cell? ⟨b,off + y * 5 + 3,none⟩ = some (.slice v.ko v.kn v.kc) ∧ W.cell? ⟨b,off + y * 5 + 4,none⟩ = some (.slice v.jo v.jn v.jc) ∧ Bel wr W) → Calls Tryz.prog 96 #[.int .i64 ((d : Int) + 1)] W fun e w' => e = .returned (.string Tb) ∧ w'.cell? ⟨b,off + z * 5 + 4,none⟩ = some (.slice (some ⟨kb,kf,none⟩) jn jc) ∧ w'.cell? ⟨kb,kf + q,none⟩ = some (.int .i64 (y : Int)) ∧ w'.cell? ⟨b,off + y * 5,none⟩ = some (.int .i64 v.k) ∧ w'.cell? ⟨b,off + y * 5 + 1,none⟩ = some (.string ⟨v.s.toArray⟩) ∧ w'.cell? ⟨b,off + y * 5 + 2,none⟩ = some (.int .i64 v.i) ∧ w'.cell? ⟨b,off + y * 5 + 3,none⟩ = some (.slice v.ko v.kn v.kc) ∧ w'.cell? ⟨b,off + y * 5 + 4,none⟩ = some (.slice v.jo v.jn v.jc) ∧ Bel wr w' from fun W hS => (HT0.out W).mono fun e w' q => ⟨q.1,by rw [q.2]; exact hS⟩)
   have HS := Lib.hid (show ∀ W,(W.cell? ⟨b,off + z * 5 + 4,none⟩ = some (.slice (some ⟨kb,kf,none⟩) jn jc) ∧ W.cell? ⟨kb,kf + q,none⟩ = some (.int .i64 (y : Int)) ∧ W.cell? ⟨b,off + y * 5,none⟩ = some (.int .i64 v.k) ∧ W.cell? ⟨b,off + y * 5 + 1,none⟩ = some (.string ⟨v.s.toArray⟩) ∧ W.cell? ⟨b,off + y * 5 + 2,none⟩ = some (.int .i64 v.i) ∧ W.cell? ⟨b,off + y * 5 + 3,none⟩ = some (.slice v.ko v.kn v.kc) ∧ W.cell? ⟨b,off + y * 5 + 4,none⟩ = some (.slice v.jo v.jn v.jc) ∧ Bel wr W) → Calls Tryz.prog 97 #[.slice (some ⟨b,off,none⟩) n nc,.agg #[.int .i64 v.k,.string ⟨v.s.toArray⟩,.int .i64 v.i,.slice v.ko v.kn v.kc,.slice v.jo v.jn v.jc],.int .i64 ((d : Int) + 1)] W fun e w' => e = .returned (.string xb) ∧ w'.cell? ⟨b,off + z * 5 + 4,none⟩ = some (.slice (some ⟨kb,kf,none⟩) jn jc) ∧ w'.cell? ⟨kb,kf + q,none⟩ = some (.int .i64 (y : Int)) ∧ w'.cell? ⟨b,off + y * 5,none⟩ = some (.int .i64 v.k) ∧ w'.cell? ⟨b,off + y * 5 + 1,none⟩ = some (.string ⟨v.s.toArray⟩) ∧ w'.cell? ⟨b,off + y * 5 + 2,none⟩ = some (.int .i64 v.i) ∧ w'.cell? ⟨b,off + y * 5 + 3,none⟩ = some (.slice v.ko v.kn v.kc) ∧ w'.cell? ⟨b,off + y * 5 + 4,none⟩ = some (.slice v.jo v.jn v.jc) ∧ Bel wr w' from fun W hS => (HS0.out W hS.2.2.2.2.2.2.2).mono fun e w' q => ⟨q.1,q.2.cell' hS.1,q.2.cell' hS.2.1,q.2.cell' hS.2.2.1,q.2.cell' hS.2.2.2.1,q.2.cell' hS.2.2.2.2.1,q.2.cell' hS.2.2.2.2.2.1,q.2.cell' hS.2.2.2.2.2.2.1,Bel.trans hS.2.2.2.2.2.2.2 q.2⟩)
   obtain ⟨vk,vs,vi,vko,vkn,vkc,vjo,vjn,vjc⟩ := v
   dsimp only at g0 g1 g2 g3 g4 HT HS
   clear HT0 HS0
   go_wp2_with fail
   go_region_held3 (fun W => W.cell? ⟨b,off + z * 5 + 4,none⟩ = some (.slice (some ⟨kb,kf,none⟩) jn jc) ∧ W.cell? ⟨kb,kf + q,none⟩ = some (.int .i64 (y : Int)) ∧ W.cell? ⟨b,off + y * 5,none⟩ = some (.int .i64 vk) ∧ W.cell? ⟨b,off + y * 5 + 1,none⟩ = some (.string ⟨vs.toArray⟩) ∧ W.cell? ⟨b,off + y * 5 + 2,none⟩ = some (.int .i64 vi) ∧ W.cell? ⟨b,off + y * 5 + 3,none⟩ = some (.slice vko vkn vkc) ∧ W.cell? ⟨b,off + y * 5 + 4,none⟩ = some (.slice vjo vjn vjc) ∧ Bel wr W) (first | exact ⟨a1,a2,a3,a4,a5,a6,a7,a8⟩ | exact ⟨e4,c0,g0,g1,g2,g3,g4,Below.drew (Bel.refl _)⟩) (first | (go_at_call 96; (with_reducible refine (HT.out _ ?_).mono ?_); (first | assumption | exact ⟨a1,a2,a3,a4,a5,a6,a7,a8⟩ | exact ⟨e4,c0,g0,g1,g2,g3,g4,Below.drew (Bel.refl _)⟩); rintro e w' ⟨rfl,a1,a2,a3,a4,a5,a6,a7,a8⟩) | (go_at_call 97; (with_reducible refine (HS.out _ ?_).mono ?_); (first | assumption | exact ⟨a1,a2,a3,a4,a5,a6,a7,a8⟩ | exact ⟨e4,c0,g0,g1,g2,g3,g4,Below.drew (Bel.refl _)⟩); rintro e w' ⟨rfl,a1,a2,a3,a4,a5,a6,a7,a8⟩))
   all_goals
    have A8 := Lib.hid (Bel.trans HBr.out a8)
    go_wp2_with fail
    go_round
    case rel => exact ⟨q + 1,_,rfl,by go_num,by omega,HT2,A8⟩
    case measure => first | (simp [intOf]; done) | (simp [intOf]; omega)
  ·obtain rfl : q = jn := by omega
   have f1 : (9223372036854775807 < T.size + Ta.size) = False := eq_false (by omega)
   have f2 : (9223372036854775807 < T.size + Ta.size + 1) = False := eq_false (by omega)
   have hfin : Hid ((T ++ Ta ++ ⟨#[125]⟩ : ByteArray) = ⟨(accB I S ++ (I ++ [125])).toArray⟩) := Lib.hid (by
    have h := hTl.out
    have hb := HTal.out
    rw [List.take_of_length_le (by rw [HSn.out,HK.out]; omega)] at h
    rw [← h,← hb]
    simp [ByteArray.ext_iff,Go.ByteArray.toList_eq])
   go_wp2_with fail
   refine (HTa.out _).mono ?_
   rintro e w2 ⟨rfl,rfl⟩
   go_wp2_with fail
   go_ret
   exact ⟨by rw [← hfin.out]; rfl,HBr.out⟩
def RSt (L : List Nd) (no : Option Addr) (n nc : Nat) (t : T) : Prop := ∀ (z : Nat),At L z t → ∀ (d : Nat),d + size t ≤ 1000 → ∀ (x : Nd),L[z]? = some x → ∀ (v : Nv) (W0 : World),NFit W0 v x → NArg W0 no n L → ∀ W,Bel W0 W →
 Calls Tryz.prog 97 #[.slice no n nc,nodV v,.int .i64 (d : Int)] W fun e w' => e = .returned (.string ⟨(txt (itS d t)).toArray⟩) ∧ Bel W w'
def RB (L : List Nd) (no : Option Addr) (n nc : Nat) (t : T) : Prop := ∀ (z : Nat),At L z t → ∀ (d : Nat),d + size t ≤ 1000 → ∀ (W : World),NArg W no n L →
 Calls Tryz.prog 48 #[.slice no n nc,.int .i64 (z : Int),.int .i64 (d : Int)] W fun e w' => e = .returned (.string ⟨(txt (itB d t)).toArray⟩) ∧ Bel W w'
def AllRS (L : List Nd) (no : Option Addr) (n nc : Nat) : Ts → Prop
 | .nil => True
 | .cons t r => RSt L no n nc t ∧ AllRS L no n nc r
theorem at_some {L : List Nd} {z : Nat} {t : T} (h : At L z t) : ∃ x,L[z]? = some x := by
 cases t with
 | node k s i keys ts =>
  obtain ⟨kids,hz,-⟩ := at_node h
  exact ⟨_,hz⟩
theorem rs_at {L : List Nd} {no : Option Addr} {n nc d : Nat} : ∀ {ts : Ts} {kids : List Int},AllRS L no n nc ts → d + sizes ts ≤ 1000 → Ats L kids ts → ∀ (W0 : World),NArg W0 no n L → ∀ j (h : j < kids.length) (h' : j < (texts d ts).length),∃ y : Nat,kids[j] = (y : Int) ∧ ∃ x,L[y]? = some x ∧ ∀ v W,NFit W0 v x → Bel W0 W → Calls Tryz.prog 97 #[.slice no n nc,nodV v,.int .i64 (d : Int)] W fun e w' => e = .returned (.string ⟨(texts d ts)[j].toArray⟩) ∧ Bel W w'
 | .nil,kids,_,_,ha,W0,hA,j,h,h' => by
  rw [Ats] at ha
  subst ha
  exact absurd h (Nat.not_lt_zero _)
 | .cons t r,kids,hp,hd,ha,W0,hA,j,h,h' => by
  rw [Ats] at ha
  rw [AllRS] at hp
  rw [sizes] at hd
  obtain ⟨z,l,rfl,h1,h2⟩ := ha
  match j,h with
  | 0,_ =>
   obtain ⟨x,hx⟩ := at_some h1
   exact ⟨z,rfl,x,hx,fun v W hv g => hp.1 z h1 d (by omega) x hx v W0 hv hA W g⟩
  | j + 1,h =>
   obtain ⟨y,hy,k⟩ := rs_at (d := d) hp.2 (by omega) h2 W0 hA j (by simpa using h) (by simpa [texts] using h')
   exact ⟨y,by simpa using hy,k⟩
mutual
theorem rS {L : List Nd} {no : Option Addr} {n nc : Nat} : ∀ {t : T},GdS t → RSt L no n nc t
 | _,.lt s e hs h => fun z hz d hd x hx v W0 hv hA W g => by
  obtain ⟨kids,hz,hk⟩ := at_node hz
  obtain ⟨q,rfl,hq⟩ := ats1 hk
  rw [hz] at hx
  obtain rfl := Option.some.inj hx
  rw [size,sizes,sizes] at hd
  have h1 := len_oE h 1
  obtain ⟨k',s',i',ko,kn,kc,jo,jn,jc⟩ := v
  obtain rfl : k' = 13 := hv.k
  obtain rfl : s' = s := hv.s
  obtain rfl : i' = 0 := hv.i
  have hjn : 1 = jn := hv.kids.1
  subst hjn
  obtain ⟨b,off,rfl,hc⟩ := za_addr (n := 1) hv.kids (by decide)
  have c0 := g.cell' (hc 0 (by simp))
  have := rst13_any no n nc s' 0 ko kn kc jc b off q d (txt (opd 1 e)) (by have := name_len hs; omega) (by omega) W c0 (fun W' B => rE h (by omega) q hq 1 W' (hA.on (Bel.trans g B)))
  rw [itS_let]
  simp only [List.cons_append]
  rw [txt_w,txt_sp,txt_n,txt_sp,txt_s,txt_sp,txt_app]
  exact this
 | _,.set s e hs h => fun z hz d hd x hx v W0 hv hA W g => by
  obtain ⟨kids,hz,hk⟩ := at_node hz
  obtain ⟨q,rfl,hq⟩ := ats1 hk
  rw [hz] at hx
  obtain rfl := Option.some.inj hx
  rw [size,sizes,sizes] at hd
  have h1 := len_oE h 1
  obtain ⟨k',s',i',ko,kn,kc,jo,jn,jc⟩ := v
  obtain rfl : k' = 14 := hv.k
  obtain rfl : s' = s := hv.s
  obtain rfl : i' = 0 := hv.i
  have hjn : 1 = jn := hv.kids.1
  subst hjn
  obtain ⟨b,off,rfl,hc⟩ := za_addr (n := 1) hv.kids (by decide)
  have c0 := g.cell' (hc 0 (by simp))
  have := rst14_any no n nc s' 0 ko kn kc jc b off q d (txt (opd 1 e)) (by have := name_len hs; omega) (by omega) W c0 (fun W' B => rE h (by omega) q hq 1 W' (hA.on (Bel.trans g B)))
  rw [itS_set]
  simp only [List.cons_append]
  rw [txt_n,txt_sp,txt_s,txt_sp,txt_app]
  exact this
 | _,.if1 e f h hb => fun z hz d hd x hx v W0 hv hA W g => by
  obtain ⟨kids,hz,hk⟩ := at_node hz
  obtain ⟨q,y,rfl,hq,hy⟩ := ats2 hk
  rw [hz] at hx
  obtain rfl := Option.some.inj hx
  rw [size,sizes,sizes,sizes] at hd
  have h1 := len_oE h 1
  have h2 := len_B hb d (by omega)
  obtain ⟨k',s',i',ko,kn,kc,jo,jn,jc⟩ := v
  obtain rfl : k' = 15 := hv.k
  obtain rfl : s' = [] := hv.s
  obtain rfl : i' = 0 := hv.i
  have hjn : 2 = jn := hv.kids.1
  subst hjn
  obtain ⟨b,off,rfl,hc⟩ := za_addr (n := 2) hv.kids (by decide)
  have c0 := g.cell' (hc 0 (by simp))
  have c1 := g.cell' (hc 1 (by simp))
  have := rst15_any no n nc [] 0 ko kn kc jc b off q y d (txt (opd 1 e)) (txt (itB d f)) (by omega) (by omega) W c0 c1 (fun W' B => rE h (by omega) q hq 1 W' (hA.on (Bel.trans g B))) (fun W' B => rB hb y hy d (by omega) W' (hA.on (Bel.trans g B)))
  rw [itS_if1]
  simp only [List.cons_append]
  rw [txt_w,txt_sp,txt_app,txt_sp]
  exact this
 | _,.if2 e f f2 h hb hf => fun z hz d hd x hx v W0 hv hA W g => by
  obtain ⟨kids,hz,hk⟩ := at_node hz
  obtain ⟨q,y,u,rfl,hq,hy,hu⟩ := ats3 hk
  rw [hz] at hx
  obtain rfl := Option.some.inj hx
  rw [size,sizes,sizes,sizes,sizes] at hd
  have h1 := len_oE h 1
  have h2 := len_B hb d (by omega)
  have h3 := len_B hf d (by omega)
  obtain ⟨k',s',i',ko,kn,kc,jo,jn,jc⟩ := v
  obtain rfl : k' = 15 := hv.k
  obtain rfl : s' = [] := hv.s
  obtain rfl : i' = 0 := hv.i
  have hjn : 3 = jn := hv.kids.1
  subst hjn
  obtain ⟨b,off,rfl,hc⟩ := za_addr (n := 3) hv.kids (by decide)
  have c0 := g.cell' (hc 0 (by simp))
  have c1 := g.cell' (hc 1 (by simp))
  have c2 := g.cell' (hc 2 (by simp))
  have := rst15e_any no n nc [] 0 ko kn kc jc b off q y u d (txt (opd 1 e)) (txt (itB d f)) (txt (itB d f2)) (by omega) (by omega) (by omega) W c0 c1 c2 (fun W' B => rE h (by omega) q hq 1 W' (hA.on (Bel.trans g B))) (fun W' B => rB hb y hy d (by omega) W' (hA.on (Bel.trans g B))) (fun W' B => rB hf u hu d (by omega) W' (hA.on (Bel.trans g B)))
  rw [itS_if2]
  simp only [List.cons_append,List.append_assoc]
  rw [txt_w,txt_sp,txt_app,txt_sp,txt_app,txt_sp,txt_w,txt_sp]
  exact this
 | _,.wh e f h hb => fun z hz d hd x hx v W0 hv hA W g => by
  obtain ⟨kids,hz,hk⟩ := at_node hz
  obtain ⟨q,y,rfl,hq,hy⟩ := ats2 hk
  rw [hz] at hx
  obtain rfl := Option.some.inj hx
  rw [size,sizes,sizes,sizes] at hd
  have h1 := len_oE h 1
  have h2 := len_B hb d (by omega)
  obtain ⟨k',s',i',ko,kn,kc,jo,jn,jc⟩ := v
  obtain rfl : k' = 16 := hv.k
  obtain rfl : s' = [] := hv.s
  obtain rfl : i' = 0 := hv.i
  have hjn : 2 = jn := hv.kids.1
  subst hjn
  obtain ⟨b,off,rfl,hc⟩ := za_addr (n := 2) hv.kids (by decide)
  have c0 := g.cell' (hc 0 (by simp))
  have c1 := g.cell' (hc 1 (by simp))
  have := rst16_any no n nc [] 0 ko kn kc jc b off q y d (txt (opd 1 e)) (txt (itB d f)) (by omega) (by omega) W c0 c1 (fun W' B => rE h (by omega) q hq 1 W' (hA.on (Bel.trans g B))) (fun W' B => rB hb y hy d (by omega) W' (hA.on (Bel.trans g B)))
  rw [itS_wh]
  simp only [List.cons_append]
  rw [txt_w,txt_sp,txt_app,txt_sp]
  exact this
 | _,.ret e h => fun z hz d hd x hx v W0 hv hA W g => by
  obtain ⟨kids,hz,hk⟩ := at_node hz
  obtain ⟨q,rfl,hq⟩ := ats1 hk
  rw [hz] at hx
  obtain rfl := Option.some.inj hx
  rw [size,sizes,sizes] at hd
  have h1 := len_oE h 1
  obtain ⟨k',s',i',ko,kn,kc,jo,jn,jc⟩ := v
  obtain rfl : k' = 17 := hv.k
  obtain rfl : s' = [] := hv.s
  obtain rfl : i' = 0 := hv.i
  have hjn : 1 = jn := hv.kids.1
  subst hjn
  obtain ⟨b,off,rfl,hc⟩ := za_addr (n := 1) hv.kids (by decide)
  have c0 := g.cell' (hc 0 (by simp))
  have := rst17_any no n nc [] 0 ko kn kc jc b off q d (txt (opd 1 e)) (by omega) W c0 (fun W' B => rE h (by omega) q hq 1 W' (hA.on (Bel.trans g B)))
  rw [itS_ret]
  simp only [List.cons_append]
  rw [txt_w,txt_sp,txt_app]
  exact this
 | _,.drop e h => fun z hz d hd x hx v W0 hv hA W g => by
  obtain ⟨kids,hz,hk⟩ := at_node hz
  obtain ⟨q,rfl,hq⟩ := ats1 hk
  rw [hz] at hx
  obtain rfl := Option.some.inj hx
  rw [size,sizes,sizes] at hd
  have h1 := len_oE h 1
  obtain ⟨k',s',i',ko,kn,kc,jo,jn,jc⟩ := v
  obtain rfl : k' = 18 := hv.k
  obtain rfl : s' = [] := hv.s
  obtain rfl : i' = 0 := hv.i
  have hjn : 1 = jn := hv.kids.1
  subst hjn
  obtain ⟨b,off,rfl,hc⟩ := za_addr (n := 1) hv.kids (by decide)
  have c0 := g.cell' (hc 0 (by simp))
  have := rst18_any no n nc [] 0 ko kn kc jc b off q d (txt (opd 1 e)) (by omega) W c0 (fun W' B => rE h (by omega) q hq 1 W' (hA.on (Bel.trans g B)))
  rw [itS_do,txt_app]
  exact this
theorem rB {L : List Nd} {no : Option Addr} {n nc : Nat} : ∀ {t : T},GdB t → RB L no n nc t
 | _,.blk ts h => fun z hz d hd W hA => by
  obtain ⟨kids,hz,hk⟩ := at_node hz
  rw [size] at hd
  have hp := rSs (L := L) (no := no) (n := n) (nc := nc) h
  have hkl := ats_len hk
  have hl := len_L h (d + 1) (by omega)
  have hacc : accB (txt (tabs d)) (texts (d + 1) ts) = [123,10] ++ txt (lines (d + 1) ts) := by unfold accB; rw [acc_lines]
  have hrep := tabs_rep d
  have := rblk_any no n nc z L 19 [] 0 [] kids hz (by have := sizes_le ts; omega) d (by omega) (texts (d + 1) ts) (by rw [texts_len]; omega) (by rw [← hrep,hacc,List.length_append,List.length_cons,List.length_cons,List.length_nil]; omega) W hA (fun j h1 h2 => rs_at hp (by omega) hk W hA j h1 h2)
  rw [← hrep,hacc] at this
  rw [itB_eq]
  simp only [List.cons_append,List.append_assoc]
  rw [txt_s,txt_gap,txt_app,txt_app]
  simp only [List.append_assoc] at this
  exact this
theorem rSs {L : List Nd} {no : Option Addr} {n nc : Nat} : ∀ {ts : Ts},GdSs ts → AllRS L no n nc ts
 | _,.nil => by rw [AllRS]; trivial
 | _,.cons t r h hr => by rw [AllRS]; exact ⟨rS h,rSs hr⟩
end
end Syn
end Go.Proofs.YtcapkeaedpabjaaGreatDoor
