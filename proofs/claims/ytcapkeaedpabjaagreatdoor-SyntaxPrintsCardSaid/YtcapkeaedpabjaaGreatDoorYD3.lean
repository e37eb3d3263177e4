/-
  Layer 8, texts merged: LexR, LexS, LexT, LexU, LexV. For every argument within the bounds that each theorem names.
-/
import Derived.Test.YtcapkeaedpabjaaGreatDoorYD2
import Derived.Deep.QuietTactic
import Derived.BigQuiet
import Derived.Lib.ReplaceLaws
import Derived.Lib.SplitLaws
import Derived.Lib.IndexBytes
import Derived.Deep.DeepCutAuto
set_option maxRecDepth 100000
set_option maxHeartbeats 16000000

/-
 Layer 7: tokens in memory; what append builds of tokens; Tokens, as the program has it.
-/
namespace Go.Proofs.YtcapkeaedpabjaaGreatDoor
open Go.RowKit Go.ChangeShapes Go.WideShapes
namespace Lex

theorem size_alloc2 (w : World) (o : Obj) : (w.alloc o).heap.size = w.heap.size + 1 := by show (w.heap.push o).size = _; simp
def encK (t : Tk) : List Value := [.int .i64 t.k,.string ⟨t.s.toArray⟩,.int .i64 t.i,.int .i64 t.a]
def encT (l : List Tk) : List Value := l.flatMap encK
theorem encK_len (t : Tk) : (encK t).length = 4 := rfl
theorem encT_len (l : List Tk) : (encT l).length = l.length * 4 := by
 induction l with
 | nil => rfl
 | cons c r ih =>
  show (encK c ++ encT r).length = _
  rw [List.length_append,ih,encK_len,List.length_cons]
  omega
theorem encT_app (a b : List Tk) : encT (a ++ b) = encT a ++ encT b := by simp [encT]
theorem encT_one (t : Tk) : encT [t] = encK t := by simp [encT]
theorem tok_one {l : List Tk} : ∀ u ∈ encT l,u.oneCell' = true := fun u hu => by
 simp only [encT,List.mem_flatMap,encK] at hu
 obtain ⟨x,_,hx⟩ := hu
 simp only [List.mem_cons,List.not_mem_nil,or_false] at hx
 rcases hx with rfl | rfl | rfl | rfl <;> rfl
theorem encT_get {l : List Tk} {i : Nat} (h : i < l.length) : (encT l)[i * 4]? = some (.int .i64 l[i].k) ∧ (encT l)[i * 4 + 1]? = some (.string ⟨l[i].s.toArray⟩) ∧ (encT l)[i * 4 + 2]? = some (.int .i64 l[i].i) ∧ (encT l)[i * 4 + 3]? = some (.int .i64 l[i].a) := by
 have e : encT l = encT (l.take i) ++ (encK l[i] ++ encT (l.drop (i + 1))) := by
  rw [← encT_one l[i],← encT_app,← encT_app]
  congr 1
  rw [List.singleton_append,← List.drop_eq_getElem_cons h,List.take_append_drop]
 have hl : (encT (l.take i)).length = i * 4 := by rw [encT_len,List.length_take,Nat.min_eq_left (by omega)]
 rw [e]
 refine ⟨?_,?_,?_,?_⟩
 all_goals
  rw [List.getElem?_append_right (by omega),hl]
  simp [encK]
theorem info_tok : (Tryz.prog.info? 54).map (fun i => (i.zero,i.size,i.bytes)) = some (some (.agg #[.int .i64 0,.string ByteArray.empty,.int .i64 0,.int .i64 0]),4,40) := by kernel_rfl
def TAt (w : World) (b o : Nat) (t : Tk) : Prop := w.cell? ⟨b,o,none⟩ = some (.int .i64 t.k) ∧ w.cell? ⟨b,o + 1,none⟩ = some (.string ⟨t.s.toArray⟩) ∧ w.cell? ⟨b,o + 2,none⟩ = some (.int .i64 t.i) ∧ w.cell? ⟨b,o + 3,none⟩ = some (.int .i64 t.a)
theorem TAt.on {w w' : World} {b o : Nat} {t : Tk} (h : TAt w b o t) (g : Bel w w') : TAt w' b o t := ⟨g.cell h.1,g.cell h.2.1,g.cell h.2.2.1,g.cell h.2.2.2⟩
theorem TAt.new (w : World) (k i a : Int) (s : ByteArray) (ty : TypeId) : TAt (w.alloc (.cells #[.int .i64 k,.string s,.int .i64 i,.int .i64 a] ty)) w.heap.size 0 ⟨k,s.toList,i,a⟩ :=
 ⟨by rw [World.cell?_alloc_new]; rfl,by rw [World.cell?_alloc_new]; show some (Value.string s) = some (.string ⟨s.toList.toArray⟩); rw [str_back],by rw [World.cell?_alloc_new]; rfl,by rw [World.cell?_alloc_new]; rfl⟩
def TArg (w : World) (o : Option Addr) (n : Nat) (l : List Tk) : Prop := l.length = n ∧ (0 < n → ∃ b off,o = some ⟨b,off,none⟩ ∧ ∀ i (h : i < l.length),TAt w b (off + i * 4) l[i])
theorem TArg.on {w w' : World} {o : Option Addr} {n : Nat} {l : List Tk} (h : TArg w o n l) (g : Bel w w') : TArg w' o n l :=
 ⟨h.1,fun hn => let ⟨b,off,e,k⟩ := h.2 hn; ⟨b,off,e,fun i hi => (k i hi).on g⟩⟩
theorem TArg.nil (w : World) (o : Option Addr) : TArg w o 0 [] := ⟨rfl,fun h => absurd h (Nat.lt_irrefl 0)⟩
theorem own_tArg {w : World} {base : Nat} {e : TypeId} {o : Option Addr} {k c : Nat} {l : List Tk} (h : w.ownsRow base e 4 (.slice o k c) k (encT l)) : TArg w o k l := by
 have hl : l.length = k := by have := h.1; rw [encT_len] at this; omega
 refine ⟨hl,fun hk => ?_⟩
 rcases h.2 with ⟨hv,hk0⟩ | ⟨g,cap,cur,hv,_,_,_⟩
 ·omega
 ·simp only [Value.slice.injEq] at hv
  obtain ⟨rfl,-,rfl⟩ := hv
  refine ⟨g,0,rfl,fun i hi => ?_⟩
  obtain ⟨e1,e2,e3,e4⟩ := encT_get hi
  have c := h.cells (g := g) rfl
  simp only [Lib.add_plain] at c
  refine ⟨?_,?_,?_,?_⟩
  ·have := c _ _ e1; simpa using this
  ·have := c _ _ e2; simpa [Nat.add_assoc] using this
  ·have := c _ _ e3; simpa [Nat.add_assoc] using this
  ·have := c _ _ e4; simpa [Nat.add_assoc] using this
theorem own_fresh {w : World} {base : Nat} {e : TypeId} {z : Nat} {o : Option Addr} {k c : Nat} {xs : List Value} (h : w.ownsRow base e z (.slice o k c) k xs) (hk : 0 < k) : ∃ g,o = some ⟨g,0,none⟩ ∧ base ≤ g := by
 rcases h.2 with ⟨hv,hk0⟩ | ⟨g,cap,cur,hv,_⟩
 ·omega
 ·simp only [Value.slice.injEq] at hv
  obtain ⟨rfl,-,rfl⟩ := hv
  exact ⟨g,rfl,(h.lt g rfl).1⟩
theorem tok_news {w : World} {b : Nat} {t : Tk} (h : TAt w b 0 t) : ∀ j u,(encT [t])[j]? = some u → w.cell? ((⟨b,0,none⟩ : Addr).add j) = some u := fun j u hj => by
 rw [encT_one] at hj
 obtain ⟨h1,h2,h3,h4⟩ := h
 rw [Lib.add_plain]
 match j,hj with
 | 0,hj => simp only [encK,List.getElem?_cons_zero,Option.some.injEq] at hj; rw [← hj]; exact h1
 | 1,hj => simp only [encK,List.getElem?_cons_succ,List.getElem?_cons_zero,Option.some.injEq] at hj; rw [← hj]; exact h2
 | 2,hj => simp only [encK,List.getElem?_cons_succ,List.getElem?_cons_zero,Option.some.injEq] at hj; rw [← hj]; exact h3
 | 3,hj => simp only [encK,List.getElem?_cons_succ,List.getElem?_cons_zero,Option.some.injEq] at hj; rw [← hj]; exact h4
 | j + 4,hj => simp [encK] at hj
theorem app_tok {Y : World} {m c g : Nat} {o : Option Addr} {l : List Tk} {w : World} (t : Tk) (hb : Bel w Y) (hown : Y.ownsRow w.heap.size 54 4 (.slice o m c) m (encT l)) (hc : TAt Y g 0 t) (hm : m ≤ 1099511627776) :
  ∃ v' w',(Builtin.append_ #[49,49] 49 #[.slice o m c,.slice (some ⟨g,0,none⟩) 1 1]).run Tryz.prog Y = .ok v' w' ∧ Bel w w' ∧ ∃ o3 c3,v' = .slice o3 (m + 1) c3 ∧ w'.ownsRow w.heap.size 54 4 (.slice o3 (m + 1) c3) (m + 1) (encT (l ++ [t])) := by
 obtain ⟨i0,hi,hz0,hz1,hz2⟩ := info_parts info_tok
 obtain ⟨v',w',r,o3,gr,-⟩ := run_append_own (P := Tryz.prog) _ w.heap.size 49 49 54 i0 _ 4 40 Tryz.underlying49 hi hz0 hz1 hz2 rfl (by decide) _ m _ hown ⟨g,0,none⟩ 1 1 (encT [t]) rfl
  (tok_news hc) tok_one (by unfold maxLen; omega) (by omega) hb.size
 obtain ⟨p2,c3,rfl,_⟩ := own_shape o3
 exact ⟨_,w',r,own_bel hown hb gr,p2,c3,rfl,by rw [encT_app]; exact o3⟩
theorem list_tok {Y : World} {m c g : Nat} {p : Option Addr} {l : List Tk} {w : World} {ops : Array Oper} {rest : List Oper} {o : Oper} {a : Act} {Q : Exit → Act → World → Prop} (t : Tk) (s x : Operand)
  (ho : o.op = .call { callee := .builtin .append,args := #[s,x],argTypes := #[49,49] }) (hgd : o.guard = none) (hty : o.type = 49) (hs : a.eval s = .slice p m c) (hx : a.eval x = .slice (some ⟨g,0,none⟩) 1 1)
  (hb : Bel w Y) (hown : Y.ownsRow w.heap.size 54 4 (.slice p m c) m (encT l)) (hc : TAt Y g 0 t) (hm : m ≤ 1099511627776)
  (h : ∀ o3 c3 w',Hid (Bel w w') → Hid (w'.ownsRow w.heap.size 54 4 (.slice o3 (m + 1) c3) (m + 1) (encT (l ++ [t]))) → wpList Tryz.prog ops Q rest (a.put o.dst (.slice o3 (m + 1) c3)) w') : wpList Tryz.prog ops Q (o :: rest) a Y :=
 wpList_plain hgd fun K hK => by
  obtain ⟨v',w',r,gr,o3,c3,rfl,k⟩ := app_tok t hb hown hc hm
  rw [← hty] at r
  unfold Oper.wp execOp
  simp only [ho,resolve,invoke,builtin,Sem.run_bind,Sem.run_pure,Result.andThen_ok,List.map_toArray,List.map_cons,List.map_nil,hs,hx]
  rw [show (#[o.type,o.type] : Array TypeId) = #[49,49] by rw [hty]] at r
  simp only [r]
  exact hK _ _ (h o3 c3 w' (Lib.hid gr) (Lib.hid k))
def TRes (B : Nat) (w : World) (e : Ending) (R : TR) : Prop := ∃ o n c,e = .returned (.tuple #[.slice o n c,.int .i64 (R.p : Int),.int .i64 R.e]) ∧ TArg w o n R.l ∧ n ≤ c ∧ (0 < n → ∃ g,o = some ⟨g,0,none⟩ ∧ B ≤ g)
theorem TRes.bad (B : Nat) (w : World) (p : Nat) (E pl : Int) (h : pl = (p : Int)) : TRes B w (.returned (.tuple #[.slice none 0 0,.int .i64 pl,.int .i64 E])) ⟨[],p,E⟩ := ⟨none,0,0,by rw [h],TArg.nil w none,Nat.le_refl _,fun h => absurd h (Nat.lt_irrefl 0)⟩
theorem addT_nil (R : TR) : addT [] R = R := by
 obtain ⟨l,p,e⟩ := R
 unfold addT
 dsimp only
 split
 ·next h => subst h; rfl
 ·rfl
theorem addT_addT (a b : List Tk) (R : TR) : addT a (addT b R) = addT (a ++ b) R := by
 unfold addT
 by_cases h : R.e = 0
 ·rw [if_pos h,if_pos h]
  dsimp only
  rw [if_pos rfl,List.append_assoc]
 ·rw [if_neg h,if_neg h,if_neg h]
theorem addT_bad (a : List Tk) (p : Nat) (e : Int) (h : e ≠ 0) : addT a ⟨[],p,e⟩ = ⟨[],p,e⟩ := if_neg h
theorem rd_n {l : Txt} : (rdT l).n ≤ l.length := by
 by_cases h : (rdT l).e = 0
 ·exact (rd_pos h).2
 ·exact rd_bad h
theorem tokens_any (s : ByteArray) (w : World) :
  Calls Tryz.prog 32 #[.string s] w fun e w' => TRes w.heap.size w' e (tokens s.toList) ∧ Bel w w' := by
 have hT : tokens s.toList = if 4000 < s.size then ⟨[],0,3⟩ else toks 0 (skipN false s.toList) (s.toList.drop (skipN false s.toList)) := by unfold tokens; rw [toL_len]
 obtain ⟨R0,hR0⟩ : ∃ R0,tokens s.toList = R0 := ⟨_,rfl⟩
 rw [hR0] at hT ⊢
 by_cases h4 : 4000 < s.size
 ·rw [if_pos h4] at hT
  subst hT
  clear hR0
  go_enter Tryz.func32,Tryz.ntmps32
  go_wp2
  go_ret3
  exact ⟨TRes.bad _ _ 0 3 _ rfl,Bel.refl _⟩
 rw [if_neg h4] at hT
 have hm : s.size ≤ maxLen := by unfold maxLen; omega
 have HI := Lib.hid (fun w => ignored_any s hm w)
 have hsk := skip_le false s.toList
 rw [toL_len] at hsk
 generalize skipN false s.toList = k0 at *
 have hN : Hid (addT [] (toks 0 k0 (s.toList.drop k0)) = R0) := Lib.hid (by rw [addT_nil]; exact hT.symm)
 clear hT hR0
 go_enter Tryz.func32,Tryz.ntmps32
 go_wp2_with fail
 refine (HI.out _).mono ?_
 rintro e w1 ⟨rfl,g1⟩
 have G1 := Lib.hid g1
 clear g1 HI
 go_wp2
 go_loopw [5,6] (fun p i wr => ∃ (k m c : Nat) (o : Option Addr) (L : List Tk),i = .int .i64 (k : Int) ∧ p = .slice o m c ∧ k ≤ s.size ∧ m ≤ 1000 ∧ Hid (addT L (toks m k (s.toList.drop k)) = R0) ∧ Hid (wr.ownsRow w.heap.size 54 4 (.slice o m c) m (encT L)) ∧ Hid (Bel w wr)) (fun _ i _ => s.size - (intOf i).toNat)
 case atStart => exact ⟨k0,0,0,none,[],rfl,rfl,hsk,Nat.zero_le _,hN,Lib.hid (World.ownsRow_nil _ _ _ _),G1⟩
 case round =>
  obtain ⟨k,m,cp,o,L,rfl,rfl,hk,hm1,hr,hO,hB⟩ := hrel
  clear hN G1
  by_cases hq : k < s.size
  ·have hne : s.toList.drop k ≠ [] := by rw [drop_get s k hq]; simp
   have hr0 := hr.out
   clear hr
   by_cases hm2 : m = 1000
   ·subst hm2
    rw [toks_full _ hne,addT_bad _ _ _ (by decide)] at hr0
    subst hr0
    clear hne
    go_wp2
    go_ret3
    exact ⟨TRes.bad _ _ k 3 _ rfl,hB.out⟩
   have hmb : ((m : Int) == 1000) = false := by simp; omega
   have sl := fun w => cutE s k (k : Int) rfl (by omega) w
   obtain ⟨T,hT⟩ : ∃ T : ByteArray,⟨(s.toList.drop k).toArray⟩ = T := ⟨_,rfl⟩
   rw [hT] at sl
   have hTl : T.toList = s.toList.drop k := by rw [← hT]; exact tl _
   have hTs : T.size = s.size - k := by rw [← toL_len,hTl,List.length_drop,toL_len]
   have HF := Lib.hid (fun w => first_any T (by omega) (by omega) w)
   rw [hTl] at HF
   have hn := rd_n (l := s.toList.drop k)
   rw [List.length_drop,toL_len] at hn
   by_cases he : (rdT (s.toList.drop k)).e = 0
   ·rw [toks_step hne hm2 he,addT_addT] at hr0
    have hnx := nxt_le he
    rw [List.length_drop,toL_len] at hnx
    have hdef : nxt (s.toList.drop k) = (rdT (s.toList.drop k)).n + skipN false (s.toList.drop (k + (rdT (s.toList.drop k)).n)) := by unfold nxt; rw [List.drop_drop]
    rw [List.drop_drop] at hr0
    obtain ⟨R,hR⟩ : ∃ R,rdT (s.toList.drop k) = R := ⟨_,rfl⟩
    rw [hR] at HF hn he hr0 hdef
    have sl2 := fun w => cutE s (k + R.n) ((k : Int) + (R.n : Int)) (by omega) (by omega) w
    obtain ⟨U,hU⟩ : ∃ U : ByteArray,⟨(s.toList.drop (k + R.n)).toArray⟩ = U := ⟨_,rfl⟩
    rw [hU] at sl2
    have hUl : U.toList = s.toList.drop (k + R.n) := by rw [← hU]; exact tl _
    have hUs : U.size = s.size - (k + R.n) := by rw [← toL_len,hUl,List.length_drop,toL_len]
    have HG := Lib.hid (fun w => ignored_any U (by unfold maxLen; omega) w)
    rw [hUl] at HG
    generalize skipN false (s.toList.drop (k + R.n)) = z at *
    generalize nxt (s.toList.drop k) = nx at *
    obtain ⟨rk,rs,ri,rn,re⟩ := R
    dsimp only at he hr0 hn hdef sl2 hUs hnx
    unfold rdV at HF
    dsimp only at HF
    obtain ⟨S,hS⟩ : ∃ S : ByteArray,⟨rs.toArray⟩ = S := ⟨_,rfl⟩
    have hSl : rs = S.toList := by rw [← hS]; exact (tl _).symm
    rw [hS] at HF
    rw [hSl] at hr0
    subst he hdef
    have hr2 := Lib.hid hr0
    clear hr0 hne hT hTl hTs hR hU hUl hUs hS hSl
    go_wp2_with fail
    refine (HF.out _).mono ?_
    rintro e w2 ⟨rfl,g2⟩
    have G2 := Lib.hid (Bel.trans hB.out g2)
    have hO1 := Lib.hid (own_on hO.out g2)
    clear g2 hB hO HF
    have A1 := Lib.hid (Bel.alloc (Bel.alloc (Bel.refl w2) (.cells #[.int .i64 rk,.string S,.int .i64 ri,.int .i64 (k : Int)] 54)) (.cells #[.int .i64 rk,.string S,.int .i64 ri,.int .i64 (k : Int)] 54))
    have hO2 := Lib.hid (own_on hO1.out A1.out)
    have hB2 := Lib.hid (Bel.trans G2.out A1.out)
    have hc1 := TAt.new (w2.alloc (.cells #[.int .i64 rk,.string S,.int .i64 ri,.int .i64 (k : Int)] 54)) rk ri (k : Int) S 54
    rw [size_alloc2] at hc1
    have hc2 := Lib.hid hc1
    clear hc1
    clear A1 hO1 G2
    go_wp2_with (at_builtin; refine list_tok ⟨rk,S.toList,ri,(k : Int)⟩ _ _ rfl rfl rfl rfl rfl hB2.out hO2.out hc2.out (by omega) ?_; intro o3 c3 w3 g3 h3; refine Hid.out ?_)
    refine Lib.hid ?_
    clear hO2 hB2 hc2
    go_wp2_with fail
    refine (HG.out _).mono ?_
    rintro e w4 ⟨rfl,g4⟩
    have G4 := Lib.hid (Bel.trans g3.out g4)
    have hO4 := Lib.hid (own_on h3.out g4)
    clear g4 g3 h3 HG
    go_wp2_with fail
    go_roundw
    case rel => exact ⟨k + (rn + z),m + 1,c3,o3,L ++ [⟨rk,S.toList,ri,(k : Int)⟩],by go_num,rfl,by omega,by omega,hr2,hO4,G4⟩
    case measure => simp [intOf]; omega
   ·rw [toks_bad hne hm2 he,addT_bad _ _ _ he] at hr0
    obtain ⟨R,hR⟩ : ∃ R,rdT (s.toList.drop k) = R := ⟨_,rfl⟩
    rw [hR] at HF hn he hr0
    obtain ⟨rk,rs,ri,rn,re⟩ := R
    dsimp only at he hr0 hn
    have he2 : (re != 0) = true := by simpa using he
    unfold rdV at HF
    dsimp only at HF
    subst hr0
    clear hne hT hTl hTs hR he
    go_wp2_with fail
    refine (HF.out _).mono ?_
    rintro e w2 ⟨rfl,g2⟩
    have G2 := Lib.hid (Bel.trans hB.out g2)
    clear g2 hB hO HF
    go_wp2
    go_ret3
    exact ⟨TRes.bad _ _ (k + rn) re _ (by omega),Bel.alloc G2.out _⟩
  ·have hr0 := hr.out
   rw [drop_end s (by omega),toks_nil] at hr0
   have hr1 : (⟨L ++ [],0,0⟩ : TR) = R0 := hr0
   rw [List.append_nil] at hr1
   subst hr1
   clear hr hr0
   obtain ⟨_,_,hsh,hcap⟩ := own_shape hO.out
   simp only [Value.slice.injEq,true_and] at hsh
   obtain ⟨-,hcp⟩ := hsh
   subst hcp
   have hA := Lib.hid (own_tArg hO.out)
   have hFr := Lib.hid (own_fresh hO.out)
   clear hO
   go_wp2
   go_ret3
   exact ⟨⟨_,_,_,rfl,hA.out,hcap,hFr.out⟩,hB.out⟩

theorem rtokens_any (s : ByteArray) (w : World) (hs : s.size ≤ 5000) :
  Calls Tryz.prog 35 #[.string s] w fun e w' => TRes w.heap.size w' e (tokens s.toList) ∧ Bel w w' := by
 have hT : tokens s.toList = if 4000 < s.size then ⟨[],0,3⟩ else toks 0 (skipN false s.toList) (s.toList.drop (skipN false s.toList)) := by unfold tokens; rw [toL_len]
 obtain ⟨R0,hR0⟩ : ∃ R0,tokens s.toList = R0 := ⟨_,rfl⟩
 rw [hR0] at hT ⊢
 by_cases h4 : 4000 < s.size
 ·rw [if_pos h4] at hT
  subst hT
  clear hR0
  go_enter Tryz.func35,Tryz.ntmps35
  go_wp2
  go_ret3
  exact ⟨TRes.bad _ _ 0 3 _ rfl,Bel.refl _⟩
 rw [if_neg h4] at hT
 have hm : s.size ≤ maxLen := by unfold maxLen; omega
 have HI := Lib.hid (fun w => rskip_any s hm 0 (Nat.zero_le _) w)
 rw [List.drop_zero,Nat.zero_add,show ((0 : Nat) : Int) = 0 from rfl] at HI
 have hsk := skip_le false s.toList
 rw [toL_len] at hsk
 generalize skipN false s.toList = k0 at *
 have hN : Hid (addT [] (toks 0 k0 (s.toList.drop k0)) = R0) := Lib.hid (by rw [addT_nil]; exact hT.symm)
 clear hT hR0
 go_enter Tryz.func35,Tryz.ntmps35
 go_wp2_with fail
 refine (HI.out _).mono ?_
 rintro e w1 ⟨rfl,rfl⟩
 have G1 := Lib.hid (Bel.refl w)
 clear HI
 go_wp2
 go_loopw [5,6] (fun p i wr => ∃ (k m c : Nat) (o : Option Addr) (L : List Tk),i = .int .i64 (k : Int) ∧ p = .slice o m c ∧ k ≤ s.size ∧ m ≤ 1000 ∧ Hid (addT L (toks m k (s.toList.drop k)) = R0) ∧ Hid (wr.ownsRow w.heap.size 54 4 (.slice o m c) m (encT L)) ∧ Hid (Bel w wr)) (fun _ i _ => s.size - (intOf i).toNat)
 case atStart => exact ⟨k0,0,0,none,[],rfl,rfl,hsk,Nat.zero_le _,hN,Lib.hid (World.ownsRow_nil _ _ _ _),G1⟩
 case round =>
  obtain ⟨k,m,cp,o,L,rfl,rfl,hk,hm1,hr,hO,hB⟩ := hrel
  clear hN G1
  by_cases hq : k < s.size
  ·have hne : s.toList.drop k ≠ [] := by rw [drop_get s k hq]; simp
   have hr0 := hr.out
   clear hr
   by_cases hm2 : m = 1000
   ·subst hm2
    rw [toks_full _ hne,addT_bad _ _ _ (by decide)] at hr0
    subst hr0
    clear hne
    go_wp2
    go_ret3
    exact ⟨TRes.bad _ _ k 3 _ rfl,hB.out⟩
   have hmb : ((m : Int) == 1000) = false := by simp; omega
   have HF := Lib.hid (fun w => one_any s (by omega) k hq w)
   have hn := rd_n (l := s.toList.drop k)
   rw [List.length_drop,toL_len] at hn
   by_cases he : (rdT (s.toList.drop k)).e = 0
   ·rw [toks_step hne hm2 he,addT_addT] at hr0
    have hnx := nxt_le he
    rw [List.length_drop,toL_len] at hnx
    have hdef : nxt (s.toList.drop k) = (rdT (s.toList.drop k)).n + skipN false (s.toList.drop (k + (rdT (s.toList.drop k)).n)) := by unfold nxt; rw [List.drop_drop]
    rw [List.drop_drop] at hr0
    obtain ⟨R,hR⟩ : ∃ R,rdT (s.toList.drop k) = R := ⟨_,rfl⟩
    rw [hR] at HF hn he hr0 hdef
    have HG := Lib.hid (fun w => rskip_any s hm (k + R.n) (by omega) w)
    generalize skipN false (s.toList.drop (k + R.n)) = z at *
    generalize nxt (s.toList.drop k) = nx at *
    obtain ⟨rk,rs,ri,rn,re⟩ := R
    dsimp only at he hr0 hn hdef hnx HG
    rw [Int.natCast_add] at HG
    obtain ⟨S,hS⟩ : ∃ S : ByteArray,⟨rs.toArray⟩ = S := ⟨_,rfl⟩
    have hSl : rs = S.toList := by rw [← hS]; exact (tl _).symm
    rw [hSl] at hr0
    subst he hdef
    have hr2 := Lib.hid hr0
    clear hr0 hne hR
    go_wp2_with fail
    refine (HF.out _).mono ?_
    rintro e w2 ⟨⟨xk,xi,xa,en,pl,xs,rfl,h1,h2⟩,g2⟩
    obtain ⟨rfl,rfl,rfl,rfl,rfl⟩ := h1 rfl
    dsimp only
    rw [hS,Int.natCast_add]
    clear h1 h2 hS hSl
    have G2 := Lib.hid (Bel.trans hB.out g2)
    have hO1 := Lib.hid (own_on hO.out g2)
    clear g2 hB hO HF
    have A1 := Lib.hid (Bel.alloc (Bel.alloc (Bel.refl w2) (.cells #[.int .i64 xk,.string S,.int .i64 xi,.int .i64 (k : Int)] 54)) (.cells #[.int .i64 xk,.string S,.int .i64 xi,.int .i64 (k : Int)] 54))
    have hO2 := Lib.hid (own_on hO1.out A1.out)
    have hB2 := Lib.hid (Bel.trans G2.out A1.out)
    have hc1 := TAt.new (w2.alloc (.cells #[.int .i64 xk,.string S,.int .i64 xi,.int .i64 (k : Int)] 54)) xk xi (k : Int) S 54
    rw [size_alloc2] at hc1
    have hc2 := Lib.hid hc1
    clear hc1 A1 hO1 G2
    go_wp2_with (at_builtin; refine list_tok ⟨xk,S.toList,xi,(k : Int)⟩ _ _ rfl rfl rfl rfl rfl hB2.out hO2.out hc2.out (by omega) ?_; intro o3 c3 w3 g3 h3; refine Hid.out ?_)
    refine Lib.hid ?_
    clear hO2 hB2 hc2
    go_wp2_with fail
    refine (HG.out _).mono ?_
    rintro e w4 ⟨rfl,rfl⟩
    clear HG
    go_wp2_with fail
    go_roundw
    case rel => exact ⟨k + (rn + z),m + 1,c3,o3,L ++ [⟨xk,S.toList,xi,(k : Int)⟩],by go_num,rfl,by omega,by omega,hr2,h3,g3⟩
    case measure => simp [intOf]; omega
   ·rw [toks_bad hne hm2 he,addT_bad _ _ _ he] at hr0
    obtain ⟨R,hR⟩ : ∃ R,rdT (s.toList.drop k) = R := ⟨_,rfl⟩
    rw [hR] at HF hn he hr0
    obtain ⟨rk,rs,ri,rn,re⟩ := R
    dsimp only at he hr0 hn
    have he2 : (re != 0) = true := by simpa using he
    have heH := Lib.hid he
    subst hr0
    clear hne hR he
    go_wp2_with fail
    refine (HF.out _).mono ?_
    rintro e w2 ⟨⟨xk,xi,xa,en,pl,xs,rfl,h1,h2⟩,g2⟩
    have hpl := Lib.hid (h2 heH.out)
    have G2 := Lib.hid (Bel.trans hB.out g2)
    clear g2 hB hO HF h1 h2
    dsimp only
    go_wp2
    go_ret3
    exact ⟨TRes.bad _ _ (k + rn) re _ hpl.out,Bel.alloc G2.out _⟩
  ·have hr0 := hr.out
   rw [drop_end s (by omega),toks_nil] at hr0
   have hr1 : (⟨L ++ [],0,0⟩ : TR) = R0 := hr0
   rw [List.append_nil] at hr1
   subst hr1
   clear hr hr0
   obtain ⟨_,_,hsh,hcap⟩ := own_shape hO.out
   simp only [Value.slice.injEq,true_and] at hsh
   obtain ⟨-,hcp⟩ := hsh
   subst hcp
   have hA := Lib.hid (own_tArg hO.out)
   have hFr := Lib.hid (own_fresh hO.out)
   clear hO
   go_wp2
   go_ret3
   exact ⟨⟨_,_,_,rfl,hA.out,hcap,hFr.out⟩,hB.out⟩
end Lex
end Go.Proofs.YtcapkeaedpabjaaGreatDoor

/-
 Layer 7, the code: quote, written.
-/
namespace Go.Proofs.YtcapkeaedpabjaaGreatDoor
open Go.RowKit Go.ChangeShapes Go.WideShapes
namespace Num
theorem format_bel (n : Int) (h1 : -9223372036854775808 ≤ n) (h2 : n ≤ 9223372036854775807) (w : World) :
  Calls Tryz.prog 264 #[.int .i64 n] w fun e w' => e = .returned (.string ⟨(fmtL n).toArray⟩) ∧ Bel w w' := by
 unfold fmtL
 obtain ⟨N,hN⟩ : ∃ N : Nat,abz n = N := Int.eq_ofNat_of_zero_le (by unfold abz; split <;> omega)
 have hNb : N ≤ 9223372036854775808 := by unfold abz at hN; split at hN <;> omega
 rw [hN]
 have e : ((N : Int)).toNat = N := by omega
 rw [e]
 clear e
 have HN := Lib.hid hN
 clear hN
 have k0 := ndF_pos 18 N
 have k1 := ndF_le 18 N
 generalize hk : ndF 18 N = K at *
 have Hk := Lib.hid hk
 clear hk
 have hmk := fun W => run_make_row' (P := Tryz.prog) 118 5 (.int .u8 0) 1 Tryz.underlying118 info8 rfl .i64 .i64 K (by omega) (by omega) W
 go_enter Tryz.func264,Tryz.ntmps264
 go_wp2_with (first | (go_at_call 273; refine (amount_any _ (by omega) (by omega) _).mono ?_; rintro e w' ⟨rfl,rfl⟩; rw [HN.out]) | (go_at_call 274; refine (countDigits_any _ (by omega) _).mono ?_; rintro e w' ⟨rfl,rfl⟩; rw [Hk.out]))
 go_loopw [3,13] (fun r c wr => ∃ (i m : Nat),i ≤ K ∧ c = .int .i64 (i : Int) ∧ r = .int .u64 (m : Int) ∧ m ≤ 9223372036854775808 ∧ Hid (m = N / 10 ^ i) ∧ wr.rowIs w.heap.size 5 K (rowF K N i) ∧ Bel w wr) (fun _ c _ => K - (intOf c).toNat)
 case atStart =>
  refine ⟨0,N,Nat.zero_le _,rfl,rfl,hNb,Lib.hid (by simp),?_,(Bel.refl _).alloc _⟩
  exact (World.rowIs_made w (.int .u8 0) K 5).congr fun j hj => by simp [rowF,hj]
 case round =>
  obtain ⟨i,m,hi,rfl,rfl,hm,HM,hrow,hbel⟩ := hrel
  by_cases g : i < K
  ·have hcell := hrow.cell (i := K - 1 - i) (by omega)
   have hfree := hrow.frozen (K - 1 - i)
   have HR := Lib.hid hrow
   have hdig := Lib.hid (digs_get K N i g)
   clear hrow
   go_wp2
   go_roundw
   case rel =>
    refine ⟨i + 1,m / 10,by omega,by go_num,by go_num,by omega,Lib.hid (by rw [HM.out,Nat.pow_succ,Nat.div_div_eq_div_mul]),?_,hbel.setCell (Nat.le_refl _) _⟩
    refine (HR.out.set (K - 1 - i) _).congr fun j hj => ?_
    have hd := hdig.out
    rw [← HM.out] at hd
    unfold rowF
    by_cases e : j = K - 1 - i
    ·subst e
     rw [if_pos rfl,if_neg (by omega),hd]
     simp [dgt]; omega
    ·rw [if_neg e]
     by_cases e2 : j < K - i
     ·rw [if_pos e2,if_pos (by omega)]
     ·rw [if_neg e2,if_neg (by omega)]
   case measure => simp [intOf]; omega
  ·obtain rfl : i = K := by omega
   have hl := digs_len i N
   have hstr : ∀ W,W = wr → (convert 118 9 (.slice (some ⟨w.heap.size,0,none⟩) i i)).run Tryz.prog W = .ok (.string ⟨(digs i N).toArray⟩) W := by
    rintro W rfl
    have := run_convert_bytes_back (P := Tryz.prog) W 118 9 5 ⟨w.heap.size,0,none⟩ i (digs i N) Tryz.underlying118 Tryz.underlying5 Tryz.underlying9 (fun j hj => by
     have hc := hrow.cell (i := j) (by omega)
     have : (⟨w.heap.size,0,none⟩ : Addr).add j = ⟨w.heap.size,j,none⟩ := by simp [Addr.add]; omega
     rw [this,hc]
     have hj' : j < (digs i N).length := hj
     simp [rowF,List.getD_eq_getElem?_getD,List.getElem?_eq_getElem hj'])
    rw [hl] at this
    exact this
   have hs := hstr wr rfl
   have hlb : (digs i N).length ≤ 19 := by omega
   clear hstr hl hrow
   by_cases hn : n < 0
   ·go_wp2
    go_ret
    exact ⟨by simp; exact ByteArray.ext (by simp),hbel⟩
   ·go_wp2
    go_ret
    exact ⟨by simp,hbel⟩

end Num
namespace Lex

theorem replaceK_ne {c x : UInt8} (h : x ≠ c) (new : Txt) (k : Nat) (s : Txt) : Lib.replaceK [c] new k (x :: s) = x :: Lib.replaceK [c] new k s := by
 cases k with
 | zero => rfl
 | succ k =>
  have hb : (x == c) = false := by simpa using h
  have e : Lib.index (x :: s) [c] = if Lib.index s [c] == -1 then -1 else Lib.index s [c] + 1 := by
   rw [Lib.index_one,Lib.index_one]
   conv => lhs; unfold Lib.indexByte
   rw [hb]; rfl
  unfold Lib.replaceK
  rw [e]
  by_cases h1 : Lib.index s [c] = -1
  ·rw [h1]; rfl
  ·have hge := Lib.index_ge s [c]
   obtain ⟨i,hi⟩ : ∃ i : Nat,Lib.index s [c] = i := ⟨(Lib.index s [c]).toNat,by omega⟩
   rw [hi]
   have e1 : (((i : Int) == -1)) = false := by simp
   have e2 : (((i : Int) + 1 == -1)) = false := by simp; omega
   rw [e1]
   simp only [Bool.false_eq_true,if_false,e2]
   rw [show ((i : Int) + 1).toNat = i + 1 by omega,Int.toNat_natCast,List.take_succ_cons,show i + 1 + [c].length = (i + [c].length) + 1 by simp,List.drop_succ_cons]
   rfl
theorem replaceK_eq (c : UInt8) (new : Txt) (k : Nat) (s : Txt) : Lib.replaceK [c] new (k + 1) (c :: s) = new ++ Lib.replaceK [c] new k s := by
 have e : Lib.index (c :: s) [c] = 0 := by
  rw [Lib.index_one]
  unfold Lib.indexByte
  simp
 unfold Lib.replaceK
 rw [e]
 cases k <;> simp [Lib.replaceK]
def rep (c : UInt8) (new : Txt) (s : Txt) : Txt := s.flatMap fun x => if x == c then new else [x]
theorem rep_cons (c : UInt8) (new : Txt) (x : UInt8) (s : Txt) : rep c new (x :: s) = (if x == c then new else [x]) ++ rep c new s := rfl
theorem replaceK_rep (c : UInt8) (new : Txt) : ∀ s : Txt,Lib.replaceK [c] new (s.count c) s = rep c new s
 | [] => rfl
 | x :: s => by
  rw [rep_cons]
  by_cases h : x = c
  ·subst h
   rw [List.count_cons_self,replaceK_eq,replaceK_rep x new s]
   simp
  ·rw [List.count_cons_of_ne h,replaceK_ne h,replaceK_rep c new s]
   simp [h]
theorem replaceAll_rep (c : UInt8) (new s : Txt) (h : ([c] == new) = false) : Lib.replaceAll s [c] new = rep c new s := by
 unfold Lib.replaceAll Lib.replace Lib.replaceNum
 rw [h,if_pos (Or.inl (by decide)),Lib.count_one,← replaceK_rep]
 rfl
theorem rep_quo : ∀ s : Txt,rep 34 [92,34] (rep 92 [92,92] s) = quo s
 | [] => rfl
 | c :: s => by
  rw [rep_cons,quo_cons]
  have ih := rep_quo s
  by_cases h : c = 92
  ·subst h
   show rep 34 [92,34] (92 :: 92 :: rep 92 [92,92] s) = _
   rw [rep_cons,rep_cons,ih]; rfl
  ·have hb : (c == 92) = false := by simpa using h
   rw [hb]
   show rep 34 [92,34] (c :: rep 92 [92,92] s) = _
   rw [rep_cons,ih,Bool.or_false]
   by_cases h2 : c = 34
   ·subst h2; rfl
   ·have hb2 : (c == 34) = false := by simpa using h2
    rw [hb2]
    rfl
theorem rep_len (c : UInt8) (new : Txt) (h : new.length ≤ 2) (h1 : 1 ≤ new.length) (s : Txt) : (rep c new s).length ≤ s.length * 2 := by
 induction s with
 | nil => exact Nat.le_refl _
 | cons x s ih =>
  rw [rep_cons,List.length_append,List.length_cons]
  by_cases h : (x == c) = true
  ·rw [if_pos h]; omega
  ·rw [if_neg h,List.length_singleton]; omega
def ML (w : World) : Prop := ∃ m,w.cell? ⟨0,0,none⟩ = some (.int .i64 m)
theorem ML.on {w w' : World} (h : ML w) (b : Bel w w') : ML w' := let ⟨m,e⟩ := h; ⟨m,b.cell e⟩
theorem rep_any (s : ByteArray) (c : UInt8) (new : ByteArray) (hs : s.size ≤ 1000000) (hn : new.size = 2) (w : World) (hm : ML w) :
  Calls Tryz.prog 275 #[.string s,.string ⟨#[c]⟩,.string new] w fun e w' => e = .returned (.string ⟨(rep c new.toList s.toList).toArray⟩) ∧ Bel w w' := by
 obtain ⟨m,hm⟩ := hm
 have hcb : Lib.countB s ⟨#[c]⟩ ≤ s.size := Lib.countB_le ⟨#[c]⟩ (Nat.le_refl 1) s.size s (Nat.le_refl _)
 refine (Tryz.strings_ReplaceAll s ⟨#[c]⟩ new m w (by omega) hm (Nat.le_refl 1) ?_).mono fun e w' ⟨he,hb⟩ => ⟨?_,hb⟩
 ·rw [hn]; omega
 ·rw [he,show (⟨#[c]⟩ : ByteArray).data.toList = [c] from rfl,replaceAll_rep c _ _ ?_,← toL,← toL]
  have hl : new.data.toList.length = 2 := by rw [← toL,toL_len]; exact hn
  cases hx : new.data.toList with
  | nil => rfl
  | cons d q =>
   rw [hx] at hl
   cases q with
   | nil => simp at hl
   | cons d2 q2 => simp
theorem cat_lit (c : UInt8) (S : ByteArray) : (⟨#[c]⟩ : ByteArray) ++ S = ⟨(c :: S.toList).toArray⟩ := by
 apply ByteArray.ext
 rw [toL]
 simp [ByteArray.data_append]
theorem cat_quo (S : ByteArray) (l : Txt) (h : S.toList = l) : ((⟨#[34]⟩ : ByteArray) ++ S) ++ (⟨#[34]⟩ : ByteArray) = ⟨(34 :: (l ++ [34])).toArray⟩ := by
 apply ByteArray.ext
 subst h
 rw [toL]
 simp [ByteArray.data_append]
theorem quote_any (s : ByteArray) (hs : s.size ≤ 1000) (w : World) (hm : ML w) :
  Calls Tryz.prog 265 #[.string s] w fun e w' => e = .returned (.string ⟨(34 :: (quo s.toList ++ [34])).toArray⟩) ∧ Bel w w' := by
 have H1 := Lib.hid (fun w hm => rep_any s 92 ⟨#[92,92]⟩ (by omega) rfl w hm)
 rw [show (⟨#[92,92]⟩ : ByteArray).toList = [92,92] from tl _] at H1
 obtain ⟨S,hS⟩ : ∃ S : ByteArray,⟨(rep 92 [92,92] s.toList).toArray⟩ = S := ⟨_,rfl⟩
 have hSl : S.toList = rep 92 [92,92] s.toList := by rw [← hS]; exact tl _
 have hSs : S.size ≤ 2000 := by have := rep_len 92 [92,92] (by decide) (by decide) s.toList; rw [← toL_len,hSl]; rw [toL_len] at this; omega
 rw [hS] at H1
 have H2 := Lib.hid (fun w hm => rep_any S 34 ⟨#[92,34]⟩ (by omega) rfl w hm)
 rw [show (⟨#[92,34]⟩ : ByteArray).toList = [92,34] from tl _,hSl,rep_quo] at H2
 obtain ⟨U,hU⟩ : ∃ U : ByteArray,⟨(quo s.toList).toArray⟩ = U := ⟨_,rfl⟩
 have hUl : U.toList = quo s.toList := by rw [← hU]; exact tl _
 have hUs : U.size ≤ 2000 := by have := quo_len s.toList; rw [← toL_len,hUl]; rw [toL_len] at this; omega
 rw [hU] at H2
 have hF := Lib.hid (cat_quo U _ hUl)
 have HM := Lib.hid hm
 have l1 := size_lit 34
 clear hS hSl hU hUl hm
 go_enter Tryz.func265,Tryz.ntmps265
 go_wp2_with fail
 refine (H1.out _ HM.out).mono ?_
 rintro e w1 ⟨rfl,g1⟩
 have M1 := Lib.hid (HM.out.on g1)
 have G1 := Lib.hid g1
 clear g1
 go_wp2_with fail
 refine (H2.out _ M1.out).mono ?_
 rintro e w2 ⟨rfl,g2⟩
 have G2 := Lib.hid (Bel.trans G1.out g2)
 clear g2
 go_wp2_with fail
 go_ret
 exact ⟨by rw [← hF.out]; rfl,G2.out⟩
def tokV (t : Tk) : Value := .agg #[.int .i64 t.k,.string ⟨t.s.toArray⟩,.int .i64 t.i,.int .i64 t.a]
def FitT (t : Tk) : Prop := (-9223372036854775808 ≤ t.k ∧ t.k ≤ 9223372036854775807) ∧ (-9223372036854775808 ≤ t.i ∧ t.i ≤ 9223372036854775807) ∧ (-9223372036854775808 ≤ t.a ∧ t.a ≤ 9223372036854775807)
theorem written_any (k i a : Int) (S : ByteArray) (hi : -9223372036854775808 ≤ i ∧ i ≤ 9223372036854775807) (hs : S.size ≤ 1000) (w : World) (hm : ML w) :
  Calls Tryz.prog 242 #[.agg #[.int .i64 k,.string S,.int .i64 i,.int .i64 a]] w fun e w' => e = .returned (.string ⟨(wrt ⟨k,S.toList,i,a⟩).toArray⟩) ∧ Bel w w' := by
 have B1 := Lib.hid (Bel.alloc (Bel.refl w) (.cells #[.int .i64 k,.string S,.int .i64 i,.int .i64 a] 54))
 have M1 := Lib.hid (hm.on B1.out)
 have HF := Lib.hid (Num.format_bel i hi.1 hi.2)
 have HQ := Lib.hid (fun w hm => quote_any S hs w hm)
 have l1 := size_lit 64
 obtain ⟨Z,hZ⟩ : ∃ Z,wrt ⟨k,S.toList,i,a⟩ = Z := ⟨_,rfl⟩
 rw [hZ]
 unfold wrt at hZ
 dsimp only at hZ
 clear hm hi
 by_cases h1 : k = 1
 ·subst h1
  rw [if_pos (Or.inl rfl)] at hZ
  have hE : Hid (⟨Z.toArray⟩ = S) := Lib.hid (by rw [← hZ,str_back])
  clear hZ
  go_enter Tryz.func242,Tryz.ntmps242
  go_wp2
  go_ret
  exact ⟨by rw [hE.out]; rfl,B1.out⟩
 by_cases h2 : k = 2
 ·subst h2
  rw [if_pos (Or.inr (Or.inl rfl))] at hZ
  have hE : Hid (⟨Z.toArray⟩ = S) := Lib.hid (by rw [← hZ,str_back])
  clear hZ h1
  go_enter Tryz.func242,Tryz.ntmps242
  go_wp2
  go_ret
  exact ⟨by rw [hE.out]; rfl,B1.out⟩
 by_cases h5 : k = 5
 ·subst h5
  rw [if_pos (Or.inr (Or.inr rfl))] at hZ
  have hE : Hid (⟨Z.toArray⟩ = S) := Lib.hid (by rw [← hZ,str_back])
  clear hZ h1 h2
  go_enter Tryz.func242,Tryz.ntmps242
  go_wp2
  go_ret
  exact ⟨by rw [hE.out]; rfl,B1.out⟩
 rw [if_neg (by omega)] at hZ
 by_cases h3 : k = 3
 ·subst h3
  rw [if_pos rfl] at hZ
  subst hZ
  clear h1 h2 h5
  go_enter Tryz.func242,Tryz.ntmps242
  go_wp2_with fail
  refine (HF.out _).mono ?_
  rintro e w1 ⟨rfl,g1⟩
  have G1 := Lib.hid (Bel.trans B1.out g1)
  clear g1
  go_wp2_with fail
  go_ret
  exact ⟨rfl,G1.out⟩
 rw [if_neg h3] at hZ
 by_cases h4 : k = 4
 ·subst h4
  rw [if_pos rfl] at hZ
  subst hZ
  clear h1 h2 h5 h3
  go_enter Tryz.func242,Tryz.ntmps242
  go_wp2_with fail
  refine (HQ.out _ M1.out).mono ?_
  rintro e w1 ⟨rfl,g1⟩
  have G1 := Lib.hid (Bel.trans B1.out g1)
  clear g1
  go_wp2_with fail
  go_ret
  exact ⟨rfl,G1.out⟩
 rw [if_neg h4] at hZ
 by_cases h6 : k = 6
 ·subst h6
  rw [if_pos rfl] at hZ
  have hE : Hid ((⟨#[64]⟩ : ByteArray) ++ S = ⟨Z.toArray⟩) := Lib.hid (by rw [← hZ,cat_lit])
  clear hZ h1 h2 h5 h3 h4
  go_enter Tryz.func242,Tryz.ntmps242
  go_wp2
  go_ret
  exact ⟨by rw [← hE.out]; rfl,B1.out⟩
 ·rw [if_neg h6] at hZ
  subst hZ
  have e1 : (k == 1) = false := by simpa using h1
  have e2 : (k == 2) = false := by simpa using h2
  have e3 : (k == 3) = false := by simpa using h3
  have e4 : (k == 4) = false := by simpa using h4
  have e5 : (k == 5) = false := by simpa using h5
  have e6 : (k == 6) = false := by simpa using h6
  clear h1 h2 h5 h3 h4 h6
  go_enter Tryz.func242,Tryz.ntmps242
  go_wp2
  go_ret
  exact ⟨rfl,B1.out⟩

theorem eq_tok (a b : Int) (x y : ByteArray) (c d e f : Int) (w : World) : (Op.equalIn 10000 54 (.agg #[.int .i64 a,.string x,.int .i64 c,.int .i64 e]) (.agg #[.int .i64 b,.string y,.int .i64 d,.int .i64 f])).run Tryz.prog w = .ok (a == b && (x.toList == y.toList && (c == d && e == f))) w := by
 have hS : Tryz.prog.underlying 54 = some (.struct (Tryz.prog.fieldsOf 54)) := by kernel_rfl
 rw [show (10000 : Nat) = 9999 + 1 from rfl,run_equalIn_agg w 9999 54 _ _ hS (by kernel_rfl)]
 simp only [Program.fieldsOf,Tryz.underlying54]
 have u3 := Tryz.underlying3
 have u9 := Tryz.underlying9
 have uK := Tryz.underlying52
 go_simp
 by_cases h1 : a = b <;> by_cases h2 : c = d <;> by_cases h3 : x.toList = y.toList <;> by_cases h4 : e = f <;> simp [h1,h2,h3,h4]
@[go_sem] theorem guard_tok : Tryz.prog.eqGuardType Tryz.prog.depth 54 = false := by kernel_rfl
theorem txt_no {t : Tk} (h : ¬ okT t = true) : txtT t = [] ∧ txtE t = 1 := by
 unfold txtT txtE
 rw [if_neg h,if_neg h]
 exact ⟨rfl,rfl⟩
theorem txt_yes {t : Tk} (h : okT t = true) : txtT t = wrt t ∧ txtE t = 0 := by
 unfold txtT txtE
 rw [if_pos h,if_pos h]
 exact ⟨rfl,rfl⟩
theorem cell_off {w : World} {b b' o o' : Nat} {v u : Value} (h : w.cell? ⟨b,o,none⟩ = some v) (hne : b' ≠ b) : (w.setCell ⟨b',o',none⟩ u).cell? ⟨b,o,none⟩ = some v := by
 rw [World.cell?_setCell_other _ _ _ _ (fun h => hne (Addr.mk.inj h).1)]
 exact h
theorem text_any (k i a : Int) (S : ByteArray) (hi : -9223372036854775808 ≤ i ∧ i ≤ 9223372036854775807) (hs : S.size ≤ 1000) (w : World) (hm : ML w) :
  Calls Tryz.prog 194 #[.agg #[.int .i64 k,.string S,.int .i64 i,.int .i64 a]] w fun e w' => e = .returned (.tuple #[.string ⟨(txtT ⟨k,S.toList,i,a⟩).toArray⟩,.int .i64 (txtE ⟨k,S.toList,i,a⟩)]) ∧ Bel w w' := by
 have hlen : okT ⟨k,S.toList,i,a⟩ = true → S.size ≤ 200 := fun h => by have := (ok_len h).1; rw [toL_len] at this; exact this
 have hcode := txt_code ⟨k,S.toList,i,a⟩
 have hno := @txt_no ⟨k,S.toList,i,a⟩
 have hyes := @txt_yes ⟨k,S.toList,i,a⟩
 have HW := Lib.hid (fun w hm => written_any k i a S hi hs w hm)
 dsimp only at hcode
 obtain ⟨WT,hWT⟩ : ∃ WT : ByteArray,⟨(wrt ⟨k,S.toList,i,a⟩).toArray⟩ = WT := ⟨_,rfl⟩
 have hWl : WT.toList = wrt ⟨k,S.toList,i,a⟩ := by rw [← hWT]; exact tl _
 rw [hWT] at HW
 rw [← hWl] at hcode hyes
 generalize okT ⟨k,S.toList,i,a⟩ = B at hlen hcode hno hyes
 generalize txtT ⟨k,S.toList,i,a⟩ = TT at hno hyes ⊢
 generalize txtE ⟨k,S.toList,i,a⟩ = TE at hno hyes ⊢
 have B1 := Lib.hid (Bel.alloc (Bel.refl w) (.cells #[.int .i64 k,.string S,.int .i64 i,.int .i64 a] 54))
 have M1 := Lib.hid (hm.on B1.out)
 have K1 := Lib.hid (TkC.new w k i a S 54)
 clear hWT hWl hm hi
 by_cases h2 : 200 < S.size
 ·obtain ⟨rfl,rfl⟩ := hno (fun h => by have := hlen h; omega)
  clear hlen hcode hno hyes
  go_enter Tryz.func194,Tryz.ntmps194
  go_wp2
  go_ret2
  exact ⟨rfl,B1.out⟩
 have HT := Lib.hid (fun w => tokens_any WT w)
 obtain ⟨R,hR⟩ : ∃ R,tokens WT.toList = R := ⟨_,rfl⟩
 rw [hR] at HT hcode
 have HCo := Lib.hid hcode
 have HNo := Lib.hid hno
 have HYes := Lib.hid hyes
 clear hR hlen hcode hno hyes
 go_enter Tryz.func194,Tryz.ntmps194
 go_wp2_with fail
 refine (HW.out _ M1.out).mono ?_
 rintro e w2 ⟨rfl,g2⟩
 have K2 := Lib.hid (K1.out.on g2)
 have G2 := Lib.hid (Bel.trans B1.out g2)
 clear g2 HW K1 M1 B1
 go_wp2_with fail
 refine (HT.out _).mono ?_
 rintro e w3 ⟨⟨o,n,c,rfl,hA,hnc,hfr⟩,g3⟩
 have K3 := Lib.hid (K2.out.on g3)
 have G3 := Lib.hid (Bel.trans G2.out g3)
 have hsz : Hid (w.heap.size < w2.heap.size) := Lib.hid (cell_lt K2.out.1)
 have HA := Lib.hid hA
 have HFr := Lib.hid hfr
 clear g3 HT K2 G2 hA hfr
 obtain ⟨s1,s2,s3,s4,f1,f2,f3,f4⟩ := K3.out
 go_upto_region 6 with (fail)
 have c1 : (w3.setCell ⟨w.heap.size,3,none⟩ (.int .i64 0)).cell? ⟨w.heap.size,0,none⟩ = some (.int .i64 k) := by rw [World.cell?_setCell_other _ _ _ _ (fun h => by cases (Addr.mk.inj h).2.1)]; exact s1
 have c2 : (w3.setCell ⟨w.heap.size,3,none⟩ (.int .i64 0)).cell? ⟨w.heap.size,1,none⟩ = some (.string S) := by rw [World.cell?_setCell_other _ _ _ _ (fun h => by cases (Addr.mk.inj h).2.1)]; exact s2
 have c3 : (w3.setCell ⟨w.heap.size,3,none⟩ (.int .i64 0)).cell? ⟨w.heap.size,2,none⟩ = some (.int .i64 i) := by rw [World.cell?_setCell_other _ _ _ _ (fun h => by cases (Addr.mk.inj h).2.1)]; exact s3
 have c4 : (w3.setCell ⟨w.heap.size,3,none⟩ (.int .i64 0)).cell? ⟨w.heap.size,3,none⟩ = some (.int .i64 0) := World.cell?_setCell_same _ _ _ s4
 have G : Bel w (w3.setCell ⟨w.heap.size,3,none⟩ (.int .i64 0)) := G3.out.setCell (Nat.le_refl _) _
 by_cases he : R.e = 0
 ·by_cases hn : n = 1
  ·subst hn
   obtain ⟨b,rfl,hb⟩ := HFr.out (by omega)
   obtain ⟨b',off,hbo,hcells⟩ := HA.out.2 (by omega)
   simp only [Option.some.injEq,Addr.mk.injEq,and_true] at hbo
   obtain ⟨rfl,rfl⟩ := hbo
   have hl1 := HA.out.1
   obtain ⟨u,hu⟩ : ∃ u,R.l = [u] := by
    cases hx : R.l with
    | nil => rw [hx] at hl1; cases hl1
    | cons u q =>
     rw [hx] at hl1
     cases q with
     | nil => exact ⟨u,rfl⟩
     | cons z y => simp at hl1
   have hne : w.heap.size ≠ b := by have := hsz.out; omega
   have ht := hcells 0 (by omega)
   simp only [hu,List.getElem_cons_zero,Nat.zero_mul,Nat.add_zero] at ht
   obtain ⟨x1,x2,x3,x4⟩ := ht
   have d1 := cell_off (o' := 3) (u := .int .i64 0) x1 hne
   have d2 := cell_off (o' := 3) (u := .int .i64 0) x2 hne
   have d3 := cell_off (o' := 3) (u := .int .i64 0) x3 hne
   have d4 := cell_off (o' := 3) (u := .int .i64 0) x4 hne
   obtain ⟨uk,us,ui,ua⟩ := u
   dsimp only at d1 d2 d3 d4
   obtain ⟨US,hUS⟩ : ∃ US : ByteArray,⟨us.toArray⟩ = US := ⟨_,rfl⟩
   have hUl : us = US.toList := by rw [← hUS]; exact (tl _).symm
   rw [hUS] at d2
   rw [hUl] at hu
   simp only [Nat.zero_add] at d1 d2 d3 d4
   have heq := eq_tok uk k US S ui i ua 0
   have heR := Lib.hid he
   have huR := Lib.hid hu
   have hez : ((R.e : Int) != 0) = false := by rw [he]; rfl
   clear x1 x2 x3 x4 s1 s2 s3 s4 hcells hl1 hUS hUl he hu hb hne f1 f2 f3 f4 K3 HA HFr hsz
   cases hv : (uk == k && (US.toList == S.toList && (ui == i && ua == 0))) with
   | true =>
    rw [hv] at heq
    have hB : B = true := HCo.out.2 ⟨heR.out,by
     rw [huR.out]
     simp only [Bool.and_eq_true,beq_iff_eq] at hv
     obtain ⟨rfl,h1,rfl,rfl⟩ := hv
     rw [h1]⟩
    obtain ⟨y1,rfl⟩ := HYes.out hB
    have hTT : Hid (⟨TT.toArray⟩ = WT) := Lib.hid (by rw [y1,str_back])
    clear hv hB y1 HCo HNo HYes heR huR
    go_region_held3 (fun w' => (w'.cell? ⟨b,0,none⟩ = some (.int .i64 uk) ∧ w'.cell? ⟨b,1,none⟩ = some (.string US) ∧ w'.cell? ⟨b,2,none⟩ = some (.int .i64 ui) ∧ w'.cell? ⟨b,3,none⟩ = some (.int .i64 ua)) ∧ (w'.cell? ⟨w.heap.size,0,none⟩ = some (.int .i64 k) ∧ w'.cell? ⟨w.heap.size,1,none⟩ = some (.string S) ∧ w'.cell? ⟨w.heap.size,2,none⟩ = some (.int .i64 i) ∧ w'.cell? ⟨w.heap.size,3,none⟩ = some (.int .i64 0)) ∧ Bel w w') (exact ⟨⟨d1,d2,d3,d4⟩,⟨c1,c2,c3,c4⟩,Below.drew G⟩) (fail)
    obtain ⟨_,_,G5⟩ := ‹(_ ∧ _) ∧ (_ ∧ _) ∧ Bel w _›
    have G6 := Lib.hid G5
    clear G5
    go_wp2_with fail
    go_ret2
    exact ⟨by rw [hTT.out]; rfl,G6.out⟩
   | false =>
    rw [hv] at heq
    have hB : ¬ B = true := fun hB => by
     have h1 := (HCo.out.1 hB).2
     rw [huR.out] at h1
     simp only [List.cons.injEq,Tk.mk.injEq,and_true] at h1
     obtain ⟨rfl,h2,rfl,rfl⟩ := h1
     rw [h2] at hv
     simp at hv
    obtain ⟨rfl,rfl⟩ := HNo.out hB
    clear hv hB HCo HNo HYes heR huR
    go_region_held3 (fun w' => (w'.cell? ⟨b,0,none⟩ = some (.int .i64 uk) ∧ w'.cell? ⟨b,1,none⟩ = some (.string US) ∧ w'.cell? ⟨b,2,none⟩ = some (.int .i64 ui) ∧ w'.cell? ⟨b,3,none⟩ = some (.int .i64 ua)) ∧ (w'.cell? ⟨w.heap.size,0,none⟩ = some (.int .i64 k) ∧ w'.cell? ⟨w.heap.size,1,none⟩ = some (.string S) ∧ w'.cell? ⟨w.heap.size,2,none⟩ = some (.int .i64 i) ∧ w'.cell? ⟨w.heap.size,3,none⟩ = some (.int .i64 0)) ∧ Bel w w') (exact ⟨⟨d1,d2,d3,d4⟩,⟨c1,c2,c3,c4⟩,Below.drew G⟩) (fail)
    obtain ⟨_,_,G5⟩ := ‹(_ ∧ _) ∧ (_ ∧ _) ∧ Bel w _›
    have G6 := Lib.hid G5
    clear G5
    go_wp2_with fail
    go_ret2
    exact ⟨rfl,G6.out⟩
  ·have hB : ¬ B = true := fun hB => by
    have h1 := (HCo.out.1 hB).2
    have h2 := HA.out.1
    rw [h1] at h2
    exact hn h2.symm
   obtain ⟨rfl,rfl⟩ := HNo.out hB
   have hez : ((R.e : Int) != 0) = false := by rw [he]; rfl
   have hnz : ((n : Int) != 1) = true := by simp; omega
   clear hB HCo HNo HYes hn he s1 s2 s3 s4 K3 HA HFr hsz f1 f2 f3 f4
   have G6 := Lib.hid G
   go_quiet (fail)
   go_wp2_with fail
   go_ret2
   exact ⟨rfl,Bel.drewN G6.out _⟩
 ·have hB : ¬ B = true := fun hB => he (HCo.out.1 hB).1
  obtain ⟨rfl,rfl⟩ := HNo.out hB
  have hez : ((R.e : Int) != 0) = true := by simpa using he
  clear hB HCo HNo HYes he s1 s2 s3 s4 K3 HA HFr hsz f1 f2 f3 f4
  have G6 := Lib.hid G
  go_quiet (fail)
  go_wp2_with fail
  go_ret2
  exact ⟨rfl,Bel.drewN G6.out _⟩

theorem print_byte (c : UInt8) : printB c = (!decide ((c.toNat : Int) < 32) && !decide (126 < (c.toNat : Int))) := by
 unfold printB
 rw [Bool.eq_iff_iff]
 simp [UInt8.le_iff_toNat_le]
 omega
theorem print_step (s : ByteArray) (k : Nat) (h : k < s.size) : (s.toList.drop k).all printB = (printB s[k] && (s.toList.drop (k + 1)).all printB) := by
 rw [drop_get s k h,List.all_cons]
def quoV (s : Txt) : Ending := if s.all printB then .returned (.tuple #[.string ⟨(34 :: (quo s ++ [34])).toArray⟩,.bool (decide (s.length ≤ 200))]) else .returned (.tuple #[.string ⟨#[]⟩,.bool false])
theorem rquoted_wide (s : ByteArray) (hs : s.size ≤ 140737488355328) (w : World) :
  Calls Tryz.prog 197 #[.string s] w fun e w' => e = quoV s.toList ∧ w = w' := by
 have hV : quoV s.toList = if s.toList.all printB then .returned (.tuple #[.string ⟨(34 :: (quo s.toList ++ [34])).toArray⟩,.bool (decide (s.size ≤ 200))]) else .returned (.tuple #[.string ⟨#[]⟩,.bool false]) := by unfold quoV; rw [toL_len]
 obtain ⟨V,hV0⟩ : ∃ V,quoV s.toList = V := ⟨_,rfl⟩
 rw [hV0] at hV ⊢
 have HV := Lib.hid hV
 have hA : Hid ((s.toList.drop 0).all printB = s.toList.all printB) := Lib.hid rfl
 have hQ : Hid ((⟨#[34]⟩ : ByteArray).toList ++ quo (s.toList.drop 0) = 34 :: quo s.toList) := Lib.hid (by rw [show (⟨#[34]⟩ : ByteArray).toList = [34] from tl _]; rfl)
 generalize s.toList.all printB = B at hV hA HV
 generalize quo s.toList = Q at hQ HV hV
 clear hV hV0
 have l34 := size_lit 34
 have l92 := size_lit 92
 go_enter Tryz.func197,Tryz.ntmps197
 go_wp2
 go_loop [4,5,8] (fun o _ i => ∃ (k : Nat) (O : ByteArray),i = .int .i64 (k : Int) ∧ o = .string O ∧ k ≤ s.size ∧ O.size ≤ 1 + 2 * k ∧ Hid ((s.toList.drop k).all printB = B) ∧ Hid (O.toList ++ quo (s.toList.drop k) = 34 :: Q)) (fun _ _ i => s.size - (intOf i).toNat)
 case atStart => exact ⟨0,⟨#[34]⟩,rfl,rfl,Nat.zero_le _,by rw [l34]; omega,hA,hQ⟩
 case round =>
  obtain ⟨k,O,rfl,rfl,hk,hO,hr,hq⟩ := hrel
  clear hA hQ
  by_cases hlt : k < s.size
  ·have hr0 := hr.out
   have hq0 := hq.out
   rw [print_step s k hlt] at hr0
   rw [drop_get s k hlt,quo_cons] at hq0
   clear hr hq
   obtain ⟨c,hc⟩ : ∃ c,s[k] = c := ⟨_,rfl⟩
   have hi := fun w => idx_str s .i64 (k : Int) k rfl hlt w
   have sl := fun w => cut1 s k (k : Int) ((k : Int) + 1) rfl rfl hlt w
   rw [hc] at hr0 hq0 hi sl
   have lc := size_lit c
   clear hc
   by_cases hp : printB c = true
   ·rw [hp,Bool.true_and] at hr0
    have hr2 := Lib.hid hr0
    rw [print_byte,Bool.and_eq_true,Bool.not_eq_true',Bool.not_eq_true',decide_eq_false_iff_not,decide_eq_false_iff_not] at hp
    obtain ⟨p1,p2⟩ := hp
    by_cases c34 : c = 34
    ·subst c34
     simp only [toNat34.1] at hi p1 p2
     have hq2 : Hid (((O ++ (⟨#[92]⟩ : ByteArray)) ++ (⟨#[34]⟩ : ByteArray)).toList ++ quo (s.toList.drop (k + 1)) = 34 :: Q) := Lib.hid (by rw [app_list,app_list,← hq0]; simp)
     clear hr0 hq0
     go_wp2
     go_round
     case rel => exact ⟨k + 1,_,by go_num,rfl,by omega,by rw [ByteArray.size_append,ByteArray.size_append,l92,l34]; omega,hr2,hq2⟩
     case measure => simp [intOf]; omega
    have n34 : ((c.toNat : Int) == 34) = false := (neb 34 (by omega) c34).1
    by_cases c92 : c = 92
    ·subst c92
     simp only [toNat34.2] at hi p1 p2 n34
     have hq2 : Hid (((O ++ (⟨#[92]⟩ : ByteArray)) ++ (⟨#[92]⟩ : ByteArray)).toList ++ quo (s.toList.drop (k + 1)) = 34 :: Q) := Lib.hid (by rw [app_list,app_list,← hq0]; simp)
     clear hr0 hq0
     go_wp2
     go_round
     case rel => exact ⟨k + 1,_,by go_num,rfl,by omega,by rw [ByteArray.size_append,ByteArray.size_append,l92]; omega,hr2,hq2⟩
     case measure => simp [intOf]; omega
    ·have n92 : ((c.toNat : Int) == 92) = false := (neb 92 (by omega) c92).1
     have hq2 : Hid ((O ++ (⟨#[c]⟩ : ByteArray)).toList ++ quo (s.toList.drop (k + 1)) = 34 :: Q) := Lib.hid (by rw [app_list,← hq0]; simp [c34,c92])
     clear hr0 hq0 c34 c92
     go_wp2
     go_round
     case rel => exact ⟨k + 1,_,by go_num,rfl,by omega,by rw [ByteArray.size_append,lc]; omega,hr2,hq2⟩
     case measure => simp [intOf]; omega
   ·have hp2 : printB c = false := by simpa using hp
    rw [hp2,Bool.false_and] at hr0
    subst hr0
    have hZ := HV.out
    rw [if_neg (by decide)] at hZ
    subst hZ
    rw [print_byte,Bool.and_eq_false_iff,Bool.not_eq_false',Bool.not_eq_false',decide_eq_true_eq,decide_eq_true_eq] at hp2
    clear HV hp hq0
    by_cases p1 : (c.toNat : Int) < 32
    ·clear hp2
     go_wp2
     go_ret2
     exact ⟨rfl,rfl⟩
    ·have p2 : 126 < (c.toNat : Int) := by omega
     clear hp2
     go_wp2
     go_ret2
     exact ⟨rfl,rfl⟩
  ·obtain rfl : k = s.size := by omega
   have hr0 := hr.out
   have hq0 := hq.out
   rw [drop_end s (Nat.le_refl _)] at hr0 hq0
   have hB : true = B := hr0
   subst hB
   have hZ := HV.out
   rw [if_pos rfl] at hZ
   subst hZ
   have hF : Hid (O ++ (⟨#[34]⟩ : ByteArray) = ⟨(34 :: (Q ++ [34])).toArray⟩) := Lib.hid (by
    have e : O.toList = 34 :: Q := by rw [← hq0]; simp [quo]
    rw [← str_back (O ++ (⟨#[34]⟩ : ByteArray)),app_list,e]; rfl)
   clear hr hq hr0 hq0 HV
   go_wp2
   go_ret2
   exact ⟨by rw [← hF.out]; simp; omega,rfl⟩
theorem turn {f : Nat} {args : Array Value} {E : Ending} {w : World} (h : Calls Tryz.prog f args w fun e w' => e = E ∧ w = w') : Calls Tryz.prog f args w fun e w' => e = E ∧ w' = w := h.mono fun _ _ k => ⟨k.1,k.2.symm⟩
end Lex
end Go.Proofs.YtcapkeaedpabjaaGreatDoor
