/-
  Layer 8, texts merged: LexL, LexM, LexN, LexO, LexP, LexQ. For every argument within the bounds that each theorem names.
-/
import Derived.Test.YtcapkeaedpabjaaGreatDoorYD1
import Derived.Lib.AppendStr
import Derived.Laws.OwnMore
import Derived.Deep.RegionHeld3
import Derived.Laws.BytesArg
set_option maxRecDepth 100000
set_option maxHeartbeats 16000000

/-
 Layer 7, the code: strings in quotes; the token at the beginning.
-/
namespace Go.Proofs.YtcapkeaedpabjaaGreatDoor
open Go.RowKit Go.ChangeShapes Go.WideShapes
namespace Lex

def encB (l : Txt) : List Value := l.map fun b => Value.int .u8 (b.toNat : Int)
theorem encB_len (l : Txt) : (encB l).length = l.length := by simp [encB]
theorem encB_app (l r : Txt) : encB (l ++ r) = encB l ++ encB r := by simp [encB]
theorem info_u8 : (Tryz.prog.info? 5).map (fun i => (i.zero,i.size,i.bytes)) = some (some (.int .u8 0),1,1) := by kernel_rfl
theorem own_conv {W : World} {base m c : Nat} {o : Option Addr} {l : Txt} (h : W.ownsRow base 5 1 (.slice o m c) m (encB l)) : (convert 118 9 (.slice o m c)).run Tryz.prog W = .ok (.string ⟨l.toArray⟩) W := by
 have hl : l.length = m := by have := h.1; rw [encB_len] at this; omega
 rcases h.2 with ⟨hv,hk⟩ | ⟨g,cap,cur,hv,_⟩
 ·simp only [Value.slice.injEq] at hv
  obtain ⟨rfl,rfl,rfl⟩ := hv
  obtain rfl : l = [] := List.eq_nil_of_length_eq_zero hl
  exact run_convert_bytes_nil (P := Tryz.prog) (w := W) 118 5 Tryz.underlying118 Tryz.underlying5 0 0 9 Tryz.underlying9
 ·simp only [Value.slice.injEq] at hv
  obtain ⟨rfl,-,rfl⟩ := hv
  subst hl
  exact run_convert_bytes_back (P := Tryz.prog) W 118 9 5 ⟨g,0,none⟩ _ l Tryz.underlying118 Tryz.underlying5 Tryz.underlying9 (fun j hj => h.cells rfl j _ (by simp [encB,List.getElem?_eq_getElem hj]))
theorem own_shape {w : World} {base : Nat} {e : TypeId} {z : Nat} {v : Value} {k : Nat} {xs : List Value} (h : w.ownsRow base e z v k xs) : ∃ o c,v = .slice o k c ∧ k ≤ c := by
 rcases h.2 with ⟨hv,hk⟩ | ⟨g,cap,cur,hv,_,_,hc,_⟩
 ·exact ⟨none,0,by rw [hv,hk],by omega⟩
 ·exact ⟨_,_,hv,hc⟩
theorem own_on {w w' : World} {base : Nat} {e : TypeId} {z : Nat} {v : Value} {k : Nat} {xs : List Value} (h : w.ownsRow base e z v k xs) (b : Bel w w') : w'.ownsRow base e z v k xs :=
 h.kept (row := none) ⟨b.os,b.tape,b.output,b.size,fun i hi _ => b.block i hi⟩ (by cases hv : v.ownBlock <;> simp)
theorem own_bel {a w w' : World} {e : TypeId} {z : Nat} {v : Value} {k : Nat} {xs : List Value} (h : w.ownsRow a.heap.size e z v k xs) (b : Bel a w) (hg : w.grownBy w' v.ownBlock) : Bel a w' :=
 Below.grown b hg b.size fun i hi => (h.lt i hi).1
theorem app_byte {Y : World} {m c g : Nat} {o : Option Addr} {l : Txt} {w : World} (u : UInt8) (hb : Bel w Y) (hown : Y.ownsRow w.heap.size 5 1 (.slice o m c) m (encB l)) (hc : Y.cell? ⟨g,0,none⟩ = some (.int .u8 (u.toNat : Int))) (hm : m ≤ 1099511627776) :
  ∃ v' w',(Builtin.append_ #[118,118] 118 #[.slice o m c,.slice (some ⟨g,0,none⟩) 1 1]).run Tryz.prog Y = .ok v' w' ∧ Bel w w' ∧ ∃ o3 c3,v' = .slice o3 (m + 1) c3 ∧ w'.ownsRow w.heap.size 5 1 (.slice o3 (m + 1) c3) (m + 1) (encB (l ++ [u])) := by
 obtain ⟨i0,hi,hz0,hz1,hz2⟩ := info_parts info_u8
 obtain ⟨v',w',r,o3,gr,-⟩ := run_append_own (P := Tryz.prog) _ w.heap.size 118 118 5 i0 _ 1 1 Tryz.underlying118 hi hz0 hz1 hz2 rfl (by decide) _ m _ hown ⟨g,0,none⟩ 1 1 [.int .u8 (u.toNat : Int)] rfl
  (fun j v hj => by
   match j,hj with
   | 0,hj =>
    simp only [List.getElem?_cons_zero,Option.some.injEq] at hj
    rw [Lib.add_plain,← hj]
    exact hc) (fun v hv => by simp only [List.mem_singleton] at hv; subst hv; rfl) (by unfold maxLen; omega) (by omega) hb.size
 obtain ⟨p2,c3,rfl,_⟩ := own_shape o3
 exact ⟨_,w',r,own_bel hown hb gr,p2,c3,rfl,by rw [encB_app]; exact o3⟩
theorem list_byte {Y : World} {m c g : Nat} {p : Option Addr} {l : Txt} {w : World} {ops : Array Oper} {rest : List Oper} {o : Oper} {a : Act} {Q : Exit → Act → World → Prop} (u : UInt8) (s x : Operand)
  (ho : o.op = .call { callee := .builtin .append,args := #[s,x],argTypes := #[118,118] }) (hgd : o.guard = none) (hty : o.type = 118) (hs : a.eval s = .slice p m c) (hx : a.eval x = .slice (some ⟨g,0,none⟩) 1 1)
  (hb : Bel w Y) (hown : Y.ownsRow w.heap.size 5 1 (.slice p m c) m (encB l)) (hc : Y.cell? ⟨g,0,none⟩ = some (.int .u8 (u.toNat : Int))) (hm : m ≤ 1099511627776)
  (h : ∀ o3 c3 w',Hid (Bel w w') → Hid (w'.ownsRow w.heap.size 5 1 (.slice o3 (m + 1) c3) (m + 1) (encB (l ++ [u]))) → wpList Tryz.prog ops Q rest (a.put o.dst (.slice o3 (m + 1) c3)) w') : wpList Tryz.prog ops Q (o :: rest) a Y :=
 wpList_plain hgd fun K hK => by
  obtain ⟨v',w',r,gr,o3,c3,rfl,k⟩ := app_byte u hb hown hc hm
  rw [← hty] at r
  unfold Oper.wp execOp
  simp only [ho,resolve,invoke,builtin,Sem.run_bind,Sem.run_pure,Result.andThen_ok,List.map_toArray,List.map_cons,List.map_nil,hs,hx]
  rw [show (#[o.type,o.type] : Array TypeId) = #[118,118] by rw [hty]] at r
  simp only [r]
  exact hK _ _ (h o3 c3 w' (Lib.hid gr) (Lib.hid k))
theorem addC_nil (R : Rd) : addC [] R = R := by
 obtain ⟨k,s,i,n,e⟩ := R
 unfold addC
 dsimp only
 split
 ·next h => subst h; rfl
 ·rfl
theorem addC_addC (a b : Txt) (R : Rd) : addC a (addC b R) = addC (a ++ b) R := by
 unfold addC
 by_cases h : R.e = 0
 ·rw [if_pos h,if_pos h]
  dsimp only
  rw [if_pos rfl,List.append_assoc]
 ·rw [if_neg h,if_neg h,if_neg h]
theorem addC_bad (a : Txt) (n : Nat) (e : Int) (h : e ≠ 0) : addC a (bad n e) = bad n e := if_neg h
theorem str_esc {m p : Nat} {d : UInt8} (q : Txt) (h : escB d = true) (hm : m ≠ 200) : strT m p (92 :: d :: q) = addC [d] (strT (m + 1) (p + 2) q) := by
 rw [strT_cons,if_neg (by decide),if_neg (by decide),if_pos (by decide)]
 simp only
 rw [if_pos (show (d == 34 || d == 92) = true from h),if_neg hm]
theorem str_esc_full {p : Nat} {d : UInt8} (q : Txt) (h : escB d = true) : strT 200 p (92 :: d :: q) = bad 0 3 := by
 rw [strT_cons,if_neg (by decide),if_neg (by decide),if_pos (by decide)]
 simp only
 rw [if_pos (show (d == 34 || d == 92) = true from h),if_pos trivial]
theorem str_esc_bad {m p : Nat} (r : Txt) (h : headIs escB r = false) : strT m p (92 :: r) = bad p 1 := by
 rw [strT_cons,if_neg (by decide),if_neg (by decide),if_pos (by decide)]
 cases r with
 | nil => rfl
 | cons d q =>
  simp only
  rw [if_neg (by rw [show (d == 34 || d == 92) = escB d from rfl,show escB d = false from h]; decide)]
theorem str_end {m p : Nat} (r : Txt) : strT m p (34 :: r) = ⟨4,[],0,p + 1,0⟩ := by rw [strT_cons,if_pos (by decide)]
theorem str_bad {m p : Nat} {c : UInt8} (r : Txt) (h : c ≠ 34) (h2 : (c < 32 || 126 < c) = true) : strT m p (c :: r) = bad p 1 := by
 rw [strT_cons,if_neg (by simpa using h),if_pos h2]
theorem str_byte {m p : Nat} {c : UInt8} (r : Txt) (h : c ≠ 34) (h2 : (c < 32 || 126 < c) = false) (h3 : c ≠ 92) (hm : m ≠ 200) : strT m p (c :: r) = addC [c] (strT (m + 1) (p + 1) r) := by
 rw [strT_cons,if_neg (by simpa using h),h2,if_neg (by decide),if_neg (by simpa using h3),if_neg hm]
theorem str_full {p : Nat} {c : UInt8} (r : Txt) (h : c ≠ 34) (h2 : (c < 32 || 126 < c) = false) (h3 : c ≠ 92) : strT 200 p (c :: r) = bad 0 3 := by
 rw [strT_cons,if_neg (by simpa using h),h2,if_neg (by decide),if_neg (by simpa using h3),if_pos rfl]
theorem str_nil (m p : Nat) : strT m p [] = bad 0 1 := by rw [strT.eq_def]
theorem ctl_byte (c : UInt8) : (c < 32 || 126 < c) = (decide ((c.toNat : Int) < 32) || decide (126 < (c.toNat : Int))) := by
 rw [Bool.eq_iff_iff]
 simp [UInt8.lt_iff_toNat_lt]
 omega

theorem bel_first {w : World} {o : Obj} {w2 : World} (h : Bel (w.alloc o) w2) : Bel w w2 := Bel.trans (Bel.alloc (Bel.refl _) _) h
theorem cell_new1 (w : World) (v : Value) (t : TypeId) : (w.alloc (.cells #[v] t)).cell? ⟨w.heap.size,0,none⟩ = some v := by rw [World.cell?_alloc_new]; rfl
theorem toNat34 : (34 : UInt8).toNat = 34 ∧ (92 : UInt8).toNat = 92 := ⟨rfl,rfl⟩
theorem quoted_any (s : ByteArray) (hs : s.size ≤ 1000000) (h0 : 0 < s.size) (w : World) :
  Calls Tryz.prog 116 #[.string s] w fun e w' => e = rdV (strT 0 1 (s.toList.drop 1)) ∧ Bel w w' := by
 obtain ⟨Z0,hZ0⟩ : ∃ Z0,strT 0 1 (s.toList.drop 1) = Z0 := ⟨_,rfl⟩
 have hN : Hid (addC [] (strT 0 1 (s.toList.drop 1)) = Z0) := Lib.hid (by rw [addC_nil,hZ0])
 rw [hZ0]
 obtain ⟨Z,hZ1⟩ : ∃ Z,rdV Z0 = Z := ⟨_,rfl⟩
 have hZ : Hid (rdV Z0 = Z) := Lib.hid hZ1
 rw [hZ1]
 clear hZ0 hZ1
 go_enter Tryz.func116,Tryz.ntmps116
 go_wp2
 have TK0 := Lib.hid (TkC.new w 0 0 0 ⟨#[]⟩ 54)
 obtain ⟨W0,hW0⟩ : ∃ W0,w.alloc (.cells #[.int .i64 0,.string ⟨#[]⟩,.int .i64 0,.int .i64 0] 54) = W0 := ⟨_,rfl⟩
 have B0 : Hid (Bel w W0) := Lib.hid (by rw [← hW0]; exact Bel.alloc (Bel.refl _) _)
 rw [hW0] at TK0 ⊢
 clear hW0
 go_loopw [5,6] (fun p i wr => ∃ (k : Nat) (m c : Nat) (o : Option Addr) (acc : Txt),i = .int .i64 (k : Int) ∧ p = .slice o m c ∧ 1 ≤ k ∧ k ≤ s.size ∧ m ≤ 200 ∧ Hid (addC acc (strT m k (s.toList.drop k)) = Z0) ∧ Hid (wr.ownsRow W0.heap.size 5 1 (.slice o m c) m (encB acc)) ∧ Hid (Bel W0 wr)) (fun _ i _ => s.size - (intOf i).toNat)
 case atStart => exact ⟨1,0,0,none,[],rfl,rfl,Nat.le_refl _,h0,Nat.zero_le _,hN,Lib.hid (World.ownsRow_nil _ _ _ _),Lib.hid (Bel.refl _)⟩
 case round =>
  obtain ⟨k,m,cp,o,acc,rfl,rfl,hk1,hk,hm,hr,hO,hB⟩ := hrel
  clear hN
  have B := Lib.hid (Bel.trans B0.out hB.out)
  obtain ⟨t1,t2,t3,t4,f1,f2,f3,f4⟩ := TK0.out.on hB.out
  clear TK0
  by_cases hq : k < s.size
  ·have hr0 := hr.out
   rw [drop_get s k hq] at hr0
   clear hr
   obtain ⟨c,hc⟩ : ∃ c,s[k] = c := ⟨_,rfl⟩
   rw [hc] at hr0
   have hi := fun w => idx_str s .i64 (k : Int) k rfl hq w
   rw [hc] at hi
   clear hc
   have hw := wrap_byte c
   by_cases c34 : c = 34
   ·subst c34
    simp only [toNat34.1] at hi
    have hw : wrap32 34 = 34 := wrap_byte 34
    rw [str_end] at hr0
    have hcv := own_conv hO.out
    have hr1 : (⟨4,acc ++ [],0,k + 1,0⟩ : Rd) = Z0 := hr0
    rw [List.append_nil] at hr1
    subst hr1
    have hZ2 := hZ.out
    unfold rdV at hZ2
    dsimp only at hZ2
    clear hr0
    generalize (⟨acc.toArray⟩ : ByteArray) = T at hcv hZ2
    rw [Int.natCast_add,show ((1 : Nat) : Int) = 1 from rfl] at hZ2
    subst hZ2
    clear hZ
    go_wp2
    exact bodyPost_ret (v := .tuple #[.agg #[.int .i64 4,.string T,.int .i64 0,.int .i64 0],.int .i64 ((k : Int) + 1),.int .i64 0]) (by simp [results,Tryz.results116,go_sem,t1,t2,t3,t4]) rfl ⟨rfl,((((B.out.setCell (Nat.le_refl _) _).setCell (Nat.le_refl _) _).setCell (Nat.le_refl _) _).setCell (Nat.le_refl _) _)⟩
   have n34 : ((c.toNat : Int) == 34) = false := (neb 34 (by omega) c34).1
   cases hctl : (c < 32 || 126 < c) with
   | true =>
    rw [str_bad _ c34 hctl,addC_bad _ _ _ (by decide)] at hr0
    rw [ctl_byte,Bool.or_eq_true,decide_eq_true_eq,decide_eq_true_eq] at hctl
    clear c34
    by_cases hlt : (c.toNat : Int) < 32
    ·clear hctl
     subst hr0
     have hZ2 := hZ.out
     change Ending.returned (.tuple #[.agg #[.int .i64 0,.string ⟨#[]⟩,.int .i64 0,.int .i64 0],.int .i64 ((k : Nat) : Int),.int .i64 1]) = Z at hZ2
     subst hZ2
     clear hZ
     go_wp2_with (fail)
     exact bodyPost_ret (v := .tuple #[.agg #[.int .i64 0,.string ⟨#[]⟩,.int .i64 0,.int .i64 0],.int .i64 k,.int .i64 1]) (by simp [results,Tryz.results116,go_sem,t1,t2,t3,t4]) rfl ⟨rfl,((((B.out.setCell (Nat.le_refl _) _).setCell (Nat.le_refl _) _).setCell (Nat.le_refl _) _).setCell (Nat.le_refl _) _)⟩
    ·have hgt : 126 < (c.toNat : Int) := by omega
     clear hctl
     subst hr0
     have hZ2 := hZ.out
     change Ending.returned (.tuple #[.agg #[.int .i64 0,.string ⟨#[]⟩,.int .i64 0,.int .i64 0],.int .i64 ((k : Nat) : Int),.int .i64 1]) = Z at hZ2
     subst hZ2
     clear hZ
     go_wp2_with (fail)
     exact bodyPost_ret (v := .tuple #[.agg #[.int .i64 0,.string ⟨#[]⟩,.int .i64 0,.int .i64 0],.int .i64 k,.int .i64 1]) (by simp [results,Tryz.results116,go_sem,t1,t2,t3,t4]) rfl ⟨rfl,((((B.out.setCell (Nat.le_refl _) _).setCell (Nat.le_refl _) _).setCell (Nat.le_refl _) _).setCell (Nat.le_refl _) _)⟩
   | false =>
    have hctl2 := hctl
    rw [ctl_byte,Bool.or_eq_false_iff,decide_eq_false_iff_not,decide_eq_false_iff_not] at hctl2
    obtain ⟨hlt,hgt⟩ := hctl2
    by_cases c92 : c = 92
    ·subst c92
     simp only [toNat34.2] at hi hlt hgt n34 hw
     clear hlt hgt hctl
     have sl := fun w => cutE s (k + 1) ((k : Int) + 1) (by omega) (by omega) w
     obtain ⟨U,hU⟩ : ∃ U : ByteArray,⟨(s.toList.drop (k + 1)).toArray⟩ = U := ⟨_,rfl⟩
     rw [hU] at sl
     have hUl : U.toList = s.toList.drop (k + 1) := by rw [← hU]; exact tl _
     clear hU
     cases he : headIs escB (s.toList.drop (k + 1)) with
     | false =>
      have HE := Lib.hid (fun w => esc_any U false (by rw [hUl]; exact he) w)
      rw [str_esc_bad _ he,addC_bad _ _ _ (by decide)] at hr0
      clear hUl he c34
      subst hr0
      have hZ2 := hZ.out
      change Ending.returned (.tuple #[.agg #[.int .i64 0,.string ⟨#[]⟩,.int .i64 0,.int .i64 0],.int .i64 ((k : Nat) : Int),.int .i64 1]) = Z at hZ2
      subst hZ2
      clear hZ
      go_wp2_with ((go_at_call 177; ((with_reducible refine (HE.out _).mono ?_); rintro e w' ⟨rfl,rfl⟩)))
      exact bodyPost_ret (v := .tuple #[.agg #[.int .i64 0,.string ⟨#[]⟩,.int .i64 0,.int .i64 0],.int .i64 k,.int .i64 1]) (by simp [results,Tryz.results116,go_sem,t1,t2,t3,t4]) rfl ⟨rfl,((((B.out.setCell (Nat.le_refl _) _).setCell (Nat.le_refl _) _).setCell (Nat.le_refl _) _).setCell (Nat.le_refl _) _)⟩
     | true =>
      have HE := Lib.hid (fun w => esc_any U true (by rw [hUl]; exact he) w)
      have hq1 : k + 1 < s.size := by
       rcases Nat.lt_or_ge (k + 1) s.size with g | g
       ·exact g
       ·rw [drop_end s g] at he; cases he
      rw [drop_get s (k + 1) hq1] at he hr0
      obtain ⟨d,hd⟩ : ∃ d,s[k + 1] = d := ⟨_,rfl⟩
      have hi2 := fun w => idx_str s .i64 ((k : Int) + 1) (k + 1) (by omega) hq1 w
      rw [hd] at he hr0 hi2
      have he2 : escB d = true := he
      clear hUl he c34 hd
      by_cases hm2 : m = 200
      ·subst hm2
       rw [str_esc_full _ he2,addC_bad _ _ _ (by decide)] at hr0
       clear he2
       subst hr0
       have hZ2 := hZ.out
       change Ending.returned (.tuple #[.agg #[.int .i64 0,.string ⟨#[]⟩,.int .i64 0,.int .i64 0],.int .i64 0,.int .i64 3]) = Z at hZ2
       subst hZ2
       clear hZ
       go_wp2_with ((go_at_call 177; ((with_reducible refine (HE.out _).mono ?_); rintro e w' ⟨rfl,rfl⟩)))
       exact bodyPost_ret (v := .tuple #[.agg #[.int .i64 0,.string ⟨#[]⟩,.int .i64 0,.int .i64 0],.int .i64 0,.int .i64 3]) (by simp [results,Tryz.results116,go_sem,t1,t2,t3,t4]) rfl ⟨rfl,((((B.out.setCell (Nat.le_refl _) _).setCell (Nat.le_refl _) _).setCell (Nat.le_refl _) _).setCell (Nat.le_refl _) _)⟩
      ·have hmb : ((m : Int) == 200) = false := by simp; omega
       rw [str_esc _ he2 hm2,addC_addC] at hr0
       clear he2
       have hO2 := Lib.hid (own_on hO.out (Bel.alloc (Bel.refl _) (.cells #[.int .u8 (d.toNat : Int)] 5)))
       have hB2 := Lib.hid (Bel.alloc hB.out (.cells #[.int .u8 (d.toNat : Int)] 5))
       have hc2 := Lib.hid (cell_new1 wr (.int .u8 (d.toNat : Int)) 5)
       have hr2 := Lib.hid hr0
       clear hO hr0
       go_wp2_with (first | (go_at_call 177; ((with_reducible refine (HE.out _).mono ?_); rintro e w' ⟨rfl,rfl⟩)) | (at_builtin; refine list_byte d _ _ rfl rfl rfl rfl rfl hB2.out hO2.out hc2.out (by omega) ?_; intro o3 c3 w3 g3 h3; refine Hid.out ?_))
       refine Lib.hid ?_
       clear hO2 hB2 hc2 t1 t2 t3 t4 f1 f2 f3 f4 B
       go_wp2
       go_roundw
       case rel => exact ⟨k + 2,m + 1,c3,o3,acc ++ [d],by go_num,rfl,by omega,by omega,by omega,hr2,h3,g3⟩
       case measure => simp [intOf]; omega
    ·have n92 : ((c.toNat : Int) == 92) = false := (neb 92 (by omega) c92).1
     by_cases hm2 : m = 200
     ·subst hm2
      rw [str_full _ c34 hctl c92,addC_bad _ _ _ (by decide)] at hr0
      clear hctl c34 c92
      subst hr0
      have hZ2 := hZ.out
      change Ending.returned (.tuple #[.agg #[.int .i64 0,.string ⟨#[]⟩,.int .i64 0,.int .i64 0],.int .i64 0,.int .i64 3]) = Z at hZ2
      subst hZ2
      clear hZ
      go_wp2_with (fail)
      exact bodyPost_ret (v := .tuple #[.agg #[.int .i64 0,.string ⟨#[]⟩,.int .i64 0,.int .i64 0],.int .i64 0,.int .i64 3]) (by simp [results,Tryz.results116,go_sem,t1,t2,t3,t4]) rfl ⟨rfl,((((B.out.setCell (Nat.le_refl _) _).setCell (Nat.le_refl _) _).setCell (Nat.le_refl _) _).setCell (Nat.le_refl _) _)⟩
     ·have hmb : ((m : Int) == 200) = false := by simp; omega
      rw [str_byte _ c34 hctl c92 hm2,addC_addC] at hr0
      clear hctl c34 c92
      have hO2 := Lib.hid (own_on hO.out (Bel.alloc (Bel.refl _) (.cells #[.int .u8 (c.toNat : Int)] 5)))
      have hB2 := Lib.hid (Bel.alloc hB.out (.cells #[.int .u8 (c.toNat : Int)] 5))
      have hc2 := Lib.hid (cell_new1 wr (.int .u8 (c.toNat : Int)) 5)
      have hr2 := Lib.hid hr0
      clear hO hr0
      go_wp2_with (first | fail | (at_builtin; refine list_byte c _ _ rfl rfl rfl rfl rfl hB2.out hO2.out hc2.out (by omega) ?_; intro o3 c3 w3 g3 h3; refine Hid.out ?_))
      refine Lib.hid ?_
      clear hO2 hB2 hc2 t1 t2 t3 t4 f1 f2 f3 f4 B
      go_wp2
      go_roundw
      case rel => exact ⟨k + 1,m + 1,c3,o3,acc ++ [c],by go_num,rfl,by omega,by omega,by omega,hr2,h3,g3⟩
      case measure => simp [intOf]; omega
  ·have hr0 := hr.out
   rw [drop_end s (by omega),str_nil,addC_bad _ _ _ (by decide)] at hr0
   subst hr0
   have hZ2 := hZ.out
   change Ending.returned (.tuple #[.agg #[.int .i64 0,.string ⟨#[]⟩,.int .i64 0,.int .i64 0],.int .i64 0,.int .i64 1]) = Z at hZ2
   subst hZ2
   clear hr hZ
   go_wp2
   exact bodyPost_ret (v := .tuple #[.agg #[.int .i64 0,.string ⟨#[]⟩,.int .i64 0,.int .i64 0],.int .i64 0,.int .i64 1]) (by simp [results,Tryz.results116,go_sem,t1,t2,t3,t4]) rfl ⟨rfl,((((B.out.setCell (Nat.le_refl _) _).setCell (Nat.le_refl _) _).setCell (Nat.le_refl _) _).setCell (Nat.le_refl _) _)⟩

theorem cut1 (s : ByteArray) (i : Nat) (zi zj : Int) (hi : zi = (i : Int)) (hj : zj = (i : Int) + 1) (h : i < s.size) (w : World) :
  (Instr.slice 9 (.string s) (some (.int .i64 zi)) (some (.int .i64 zj)) none).run Tryz.prog w = .ok (.string ⟨#[s[i]]⟩) w := by
 subst hi hj
 rw [run_slice_string_if w 9 s .i64 .i64 (i : Int) ((i : Int) + 1) Tryz.underlying9,if_pos ⟨by omega,by omega⟩,if_pos ⟨by omega,by omega⟩,Lib.extract_eq]
 have e1 : ((i : Int) + 1).toNat = i + 1 := by omega
 have e2 : s.data.toList.drop i = s[i] :: s.data.toList.drop (i + 1) := by
  have hl : i < s.toList.length := by rw [toL_len]; exact h
  have := List.drop_eq_getElem_cons hl
  rw [toL_get s i h,toL] at this
  exact this
 rw [e1,Int.toNat_natCast,e2,show i + 1 - i = 1 by omega]
 rfl
theorem size_lit (c : UInt8) : (⟨#[c]⟩ : ByteArray).size = 1 := rfl
theorem app_list (X : ByteArray) (c : UInt8) : (X ++ (⟨#[c]⟩ : ByteArray)).toList = X.toList ++ [c] := by
 rw [toL,toL]
 simp [ByteArray.data_append]
theorem results_tmp4 {fn : Func} {t u v x : Tmp} (h : fn.results = #[.tmp t,.tmp u,.tmp v,.tmp x]) (tmps : Array Value) (P : Program) (w : World) :
  (results fn tmps).run P w = .ok (.tuple #[tmps.getD t Go.undef,tmps.getD u Go.undef,tmps.getD v Go.undef,tmps.getD x Go.undef]) w := by
 simp [results,h]
theorem par_zero {T : Txt} (h : T.all digB = true) (h0 : T.head? = some 48) (h2 : 1 < T.length) : Num.parE T = 1 := by
 have hn : Num.negL T = false := by
  unfold Num.negL Lib.hasPrefix
  cases T with
  | nil => cases h0
  | cons c r => obtain rfl := Option.some.inj h0; rfl
 have hb : Num.bodyL T = T := by
  have : Lib.hasPrefix T [45] = false := hn
  rw [Num.bodyL,Lib.trimPrefix,this]; rfl
 have hd : Num.decB T = false := by
  unfold Num.decB
  rw [Bool.and_eq_false_iff]
  right
  rw [h0]
  cases T with
  | nil => cases h0
  | cons c r =>
   cases r with
   | nil => simp at h2
   | cons d q => simp
 unfold Num.parE Num.okL
 rw [hb,hd]
 rfl
def NumR (q : Nat) (V E : Int) (e : Ending) : Prop := ∃ v en : Int,e = .returned (.tuple #[.int .i64 v,.int .i64 en,.int .i64 E]) ∧ (E = 0 → v = V ∧ en = (q : Int))
theorem rnumber_any (s : ByteArray) (hs : s.size ≤ 1000000) (p : Nat) (hp : p < s.size) (hd0 : digB s[p] = true) (w : World) :
  Calls Tryz.prog 127 #[.string s,.int .i64 (p : Int)] w fun e w' => NumR (p + spanN digB (s.toList.drop p)) (Num.parV ((s.toList.drop p).take (spanN digB (s.toList.drop p)))) (Num.parE ((s.toList.drop p).take (spanN digB (s.toList.drop p)))) e ∧ w = w' := by
 have hle := span_le digB (s.toList.drop p)
 rw [List.length_drop,toL_len] at hle
 have hall := (span_all digB (s.toList.drop p)).1
 have h1 : 1 ≤ spanN digB (s.toList.drop p) := by rw [drop_get s p hp,spanN,if_pos hd0]; omega
 have hh : ((s.toList.drop p).take (spanN digB (s.toList.drop p))).head? = some s[p] := by
  rw [drop_get s p hp] at h1 ⊢
  obtain ⟨j,hj⟩ : ∃ j,spanN digB (s[p] :: s.toList.drop (p + 1)) = j + 1 := ⟨_,(Nat.sub_add_cancel h1).symm⟩
  rw [hj,List.take_succ_cons]; rfl
 have hlen : ((s.toList.drop p).take (spanN digB (s.toList.drop p))).length = spanN digB (s.toList.drop p) := by rw [List.length_take,List.length_drop,toL_len,Nat.min_eq_left hle]
 obtain ⟨N,hN0⟩ : ∃ N,spanN digB (s.toList.drop p) = N := ⟨_,rfl⟩
 obtain ⟨q,hq0⟩ : ∃ q,p + N = q := ⟨_,rfl⟩
 have hN := Lib.hid (show p + spanN digB (s.toList.drop p) = q by rw [hN0,hq0])
 rw [hN0] at hle hall h1 hh hlen ⊢
 rw [hq0]
 clear hN0
 have s1 := fun w => cutS s p q (p : Int) (q : Int) rfl rfl (by omega) (by omega) w
 rw [show q - p = N by omega] at s1
 obtain ⟨T,hT⟩ : ∃ T : ByteArray,⟨((s.toList.drop p).take N).toArray⟩ = T := ⟨_,rfl⟩
 have hTl : (s.toList.drop p).take N = T.toList := by rw [← hT]; exact (tl _).symm
 have hTs : T.size ≤ maxLen := by rw [← toL_len,← hTl,hlen]; unfold maxLen; omega
 rw [hT] at s1
 rw [hTl] at hall hh hlen ⊢
 clear hTl hT
 have HP := Lib.hid (fun w => Num.rparse_any T hTs w)
 unfold Num.pair at HP
 have hz0 : s[p] = 48 → p + 1 < q → Num.parE T.toList = 1 := fun g1 g2 => par_zero hall (by rw [hh,g1]) (by omega)
 have hqb : q ≤ s.size ∧ p < q := by omega
 obtain ⟨c,hc⟩ : ∃ c,s[p] = c := ⟨_,rfl⟩
 have hi := fun w => idx_str s .i64 (p : Int) p rfl hp w
 rw [hc] at hi hz0
 clear hall hh hlen hTs hc hd0 hq0
 generalize Num.parV T.toList = V at *
 generalize Num.parE T.toList = E at *
 have hz := Lib.hid hz0
 clear hz0
 go_enter Tryz.func127,Tryz.ntmps127
 go_wp2
 go_loop [7] (fun i => ∃ k : Nat,i = .int .i64 (k : Int) ∧ p ≤ k ∧ k ≤ s.size ∧ Hid (k + spanN digB (s.toList.drop k) = q)) (fun i => s.size - (intOf i).toNat)
 case atStart => exact ⟨p,rfl,Nat.le_refl _,by omega,hN⟩
 case round =>
  obtain ⟨k,rfl,hpk,hk,hr⟩ := hrel
  clear hN
  by_cases hq : k < s.size ∧ digB (s.toList.getD k 0) = true
  ·obtain ⟨hq,hd⟩ := hq
   rw [List.getD_eq_getElem?_getD,List.getElem?_eq_getElem (by rw [toL_len]; exact hq),Option.getD_some,toL_get s k hq] at hd
   have hst := (span_step digB s k hq).symm.trans hr.out
   have hr2 : Hid (k + 1 + spanN digB (s.toList.drop (k + 1)) = q) := Lib.hid (by rw [← hst,if_pos hd])
   have H := Lib.hid ((dig_byte s[k]).symm.trans hd)
   clear hd hst hr hi s1
   go_wp2_with (go_at_call 126; refine (digit_any _ _).mono ?_; rintro e w' ⟨rfl,rfl⟩; rw [H.out])
   go_round
   case rel => exact ⟨k + 1,by go_num,by omega,by omega,hr2⟩
   case measure => simp [intOf]; omega
  ·have hr2 : k = q := by
    by_cases hq2 : k < s.size
    ·have hd : ¬ digB s[k] = true := fun h => hq ⟨hq2,by rw [List.getD_eq_getElem?_getD,List.getElem?_eq_getElem (by rw [toL_len]; exact hq2),Option.getD_some,toL_get s k hq2]; exact h⟩
     have hst := (span_step digB s k hq2).symm.trans hr.out
     rw [if_neg hd] at hst
     exact hst
    ·exact (span_stop digB s k hq2).symm.trans hr.out
   by_cases hq2 : k < s.size
   ·have hd : digB s[k] = false := by rw [← Bool.not_eq_true]; exact fun h => hq ⟨hq2,by rw [List.getD_eq_getElem?_getD,List.getElem?_eq_getElem (by rw [toL_len]; exact hq2),Option.getD_some,toL_get s k hq2]; exact h⟩
    have H := Lib.hid ((dig_byte s[k]).symm.trans hd)
    clear hr hd hq
    subst hr2
    by_cases hc : c = 48 ∧ p + 1 < k
    ·obtain ⟨rfl,hN1⟩ := hc
     have hE := hz.out rfl hN1
     subst hE
     have e48 : (48 : UInt8).toNat = 48 := rfl
     simp only [e48] at hi
     have hgt : decide ((p : Int) + 1 < (k : Int)) = true := by simp; omega
     clear hz
     go_wp2_with ((go_at_call 126; refine (digit_any _ _).mono ?_; rintro e w' ⟨rfl,rfl⟩; rw [H.out]))
     go_ret3
     exact ⟨⟨_,_,rfl,fun h => by cases h⟩,rfl⟩
    ·have hrest : ((c.toNat : Int) == 48) = false ∨ (c = 48 ∧ decide ((p : Int) + 1 < (k : Int)) = false) := by
      by_cases h48 : c = 48
      ·right; have hng : ¬ p + 1 < k := fun g => hc ⟨h48,g⟩; exact ⟨h48,by simp; omega⟩
      ·left; exact (neb 48 (by omega) h48).1
     clear hz hc
     rcases hrest with g | ⟨rfl,g⟩
     ·go_wp2_with (first | (go_at_call 126; refine (digit_any _ _).mono ?_; rintro e w' ⟨rfl,rfl⟩; rw [H.out]) | (go_at_call 182; ((with_reducible refine (HP.out _).mono ?_); rintro e w' ⟨rfl,rfl⟩)))
      go_ret3
      exact ⟨⟨_,_,rfl,fun _ => ⟨rfl,rfl⟩⟩,rfl⟩
     ·have e48 : (48 : UInt8).toNat = 48 := rfl
      simp only [e48] at hi
      go_wp2_with (first | (go_at_call 126; refine (digit_any _ _).mono ?_; rintro e w' ⟨rfl,rfl⟩; rw [H.out]) | (go_at_call 182; ((with_reducible refine (HP.out _).mono ?_); rintro e w' ⟨rfl,rfl⟩)))
      go_ret3
      exact ⟨⟨_,_,rfl,fun _ => ⟨rfl,rfl⟩⟩,rfl⟩
   ·clear hr hq
    subst hr2
    by_cases hc : c = 48 ∧ p + 1 < k
    ·obtain ⟨rfl,hN1⟩ := hc
     have hE := hz.out rfl hN1
     subst hE
     have e48 : (48 : UInt8).toNat = 48 := rfl
     simp only [e48] at hi
     have hgt : decide ((p : Int) + 1 < (k : Int)) = true := by simp; omega
     clear hz
     go_wp2_with (fail)
     go_ret3
     exact ⟨⟨_,_,rfl,fun h => by cases h⟩,rfl⟩
    ·have hrest : ((c.toNat : Int) == 48) = false ∨ (c = 48 ∧ decide ((p : Int) + 1 < (k : Int)) = false) := by
      by_cases h48 : c = 48
      ·right; have hng : ¬ p + 1 < k := fun g => hc ⟨h48,g⟩; exact ⟨h48,by simp; omega⟩
      ·left; exact (neb 48 (by omega) h48).1
     clear hz hc
     rcases hrest with g | ⟨rfl,g⟩
     ·go_wp2_with (first | fail | (go_at_call 182; ((with_reducible refine (HP.out _).mono ?_); rintro e w' ⟨rfl,rfl⟩)))
      go_ret3
      exact ⟨⟨_,_,rfl,fun _ => ⟨rfl,rfl⟩⟩,rfl⟩
     ·have e48 : (48 : UInt8).toNat = 48 := rfl
      simp only [e48] at hi
      go_wp2_with (first | fail | (go_at_call 182; ((with_reducible refine (HP.out _).mono ?_); rintro e w' ⟨rfl,rfl⟩)))
      go_ret3
      exact ⟨⟨_,_,rfl,fun _ => ⟨rfl,rfl⟩⟩,rfl⟩

def TxtR (p : Nat) (R : Rd) (e : Ending) : Prop := ∃ (t : ByteArray) (en pl : Int),e = .returned (.tuple #[.string t,.int .i64 en,.int .i64 pl,.int .i64 R.e]) ∧ (R.e = 0 → t = ⟨R.s.toArray⟩ ∧ en = ((p + R.n : Nat) : Int)) ∧ (R.e ≠ 0 → pl = ((p + R.n : Nat) : Int))
theorem rtext_any (s : ByteArray) (hs : s.size ≤ 1000000) (p : Nat) (hp : p < s.size) (w : World) :
  Calls Tryz.prog 128 #[.string s,.int .i64 (p : Int)] w fun e w' => TxtR p (strT 0 1 (s.toList.drop (p + 1))) e ∧ w = w' := by
 obtain ⟨R,hR⟩ : ∃ R,strT 0 1 (s.toList.drop (p + 1)) = R := ⟨_,rfl⟩
 have hN : Hid (addC (⟨#[]⟩ : ByteArray).toList (strT 0 1 (s.toList.drop (p + 1))) = R) := Lib.hid (by rw [show (⟨#[]⟩ : ByteArray).toList = [] from tl [],addC_nil,hR])
 rw [hR]
 clear hR
 go_enter Tryz.func128,Tryz.ntmps128
 go_wp2
 go_loop [8,9] (fun o i => ∃ (k j m : Nat) (O : ByteArray),o = .string O ∧ i = .int .i64 (k : Int) ∧ 1 ≤ k ∧ k ≤ s.size ∧ m ≤ 200 ∧ Hid (O.size = m) ∧ Hid (k = p + j) ∧ Hid (addC O.toList (strT m j (s.toList.drop k)) = R)) (fun _ i => s.size - (intOf i).toNat)
 case atStart => exact ⟨p + 1,1,0,⟨#[]⟩,rfl,by go_num,by omega,by omega,by omega,Lib.hid rfl,Lib.hid rfl,hN⟩
 case round =>
  obtain ⟨k,j,m,O,rfl,rfl,hk1,hk,hm,hO,hj,hr⟩ := hrel
  clear hN
  by_cases hq : k < s.size
  ·have hr0 := hr.out
   rw [drop_get s k hq] at hr0
   clear hr
   obtain ⟨c,hc⟩ : ∃ c,s[k] = c := ⟨_,rfl⟩
   rw [hc] at hr0
   have c1 := size_lit c
   have hi := fun w => idx_str s .i64 (k : Int) k rfl hq w
   rw [hc] at hi
   by_cases c34 : c = 34
   ·subst c34
    rw [str_end] at hr0
    have hr1 : (⟨4,O.toList ++ [],0,j + 1,0⟩ : Rd) = R := hr0
    rw [List.append_nil] at hr1
    subst hr1
    simp only [toNat34.1] at hi
    clear hr0
    go_wp2
    refine bodyPost_ret (results_tmp4 rfl _ _ _) rfl ?_
    exact ⟨⟨_,_,_,rfl,fun _ => ⟨(str_back O).symm,by have := hj.out; show (k : Int) + 1 = ((p + (j + 1) : Nat) : Int); omega⟩,fun h => absurd rfl h⟩,rfl⟩
   have n34 : ((c.toNat : Int) == 34) = false := (neb 34 (by omega) c34).1
   cases hctl : (c < 32 || 126 < c) with
   | true =>
    rw [str_bad _ c34 hctl,addC_bad _ _ _ (by decide)] at hr0
    subst hr0
    rw [ctl_byte,Bool.or_eq_true,decide_eq_true_eq,decide_eq_true_eq] at hctl
    clear c34
    by_cases hlt : (c.toNat : Int) < 32
    ·clear hctl
     go_wp2
     refine bodyPost_ret (results_tmp4 rfl _ _ _) rfl ?_
     exact ⟨⟨_,_,_,rfl,fun h => (by cases h),fun _ => by have := hj.out; show (k : Int) = ((p + j : Nat) : Int); omega⟩,rfl⟩
    ·have hgt : 126 < (c.toNat : Int) := by omega
     clear hctl
     go_wp2
     refine bodyPost_ret (results_tmp4 rfl _ _ _) rfl ?_
     exact ⟨⟨_,_,_,rfl,fun h => (by cases h),fun _ => by have := hj.out; show (k : Int) = ((p + j : Nat) : Int); omega⟩,rfl⟩
   | false =>
    have hctl2 := hctl
    rw [ctl_byte,Bool.or_eq_false_iff,decide_eq_false_iff_not,decide_eq_false_iff_not] at hctl2
    obtain ⟨hlt,hgt⟩ := hctl2
    by_cases c92 : c = 92
    ·subst c92
     simp only [toNat34.2] at hi hlt hgt n34
     clear hlt hgt hctl
     by_cases hq1 : k + 1 < s.size
     ·have hz : decide ((s.size : Int) ≤ (k : Int) + 1) = false := by simp; omega
      rw [drop_get s (k + 1) hq1] at hr0
      obtain ⟨d,hd⟩ : ∃ d,s[k + 1] = d := ⟨_,rfl⟩
      have hi2 := fun w => idx_str s .i64 ((k : Int) + 1) (k + 1) (by omega) hq1 w
      have sl := fun w => cut1 s (k + 1) ((k : Int) + 1) ((k : Int) + 1 + 1) (by omega) (by omega) hq1 w
      rw [hd] at hr0 hi2 sl
      cases he : escB d with
      | false =>
       rw [str_esc_bad (r := d :: s.toList.drop (k + 1 + 1)) he,addC_bad _ _ _ (by decide)] at hr0
       subst hr0
       have e1 : ((d.toNat : Int) != 34) = true := (neb 34 (by omega) (by rintro rfl; cases he)).2
       have e2 : ((d.toNat : Int) != 92) = true := (neb 92 (by omega) (by rintro rfl; cases he)).2
       clear he hd
       go_wp2
       refine bodyPost_ret (results_tmp4 rfl _ _ _) rfl ?_
       exact ⟨⟨_,_,_,rfl,fun h => (by cases h),fun _ => by have := hj.out; show (k : Int) = ((p + j : Nat) : Int); omega⟩,rfl⟩
      | true =>
       have hd2 : d = 34 ∨ d = 92 := by unfold escB at he; simpa using he
       by_cases hm2 : m = 200
       ·subst hm2
        rw [str_esc_full _ he,addC_bad _ _ _ (by decide)] at hr0
        subst hr0
        have hOs : ((O.size : Int) == 200) = true := by rw [hO.out]; rfl
        clear he hd
        rcases hd2 with rfl | rfl
        all_goals
         simp only [toNat34.1,toNat34.2] at hi2
         go_wp2
         refine bodyPost_ret (results_tmp4 rfl _ _ _) rfl ?_
         exact ⟨⟨_,_,_,rfl,fun h => (by cases h),fun _ => by simp [bad]⟩,rfl⟩
       ·rw [str_esc _ he hm2,addC_addC,← app_list] at hr0
        have hr2 := Lib.hid hr0
        have hOs : ((O.size : Int) == 200) = false := by rw [hO.out]; simp; omega
        have d1 := size_lit d
        have hOb : O.size ≤ 200 := by rw [hO.out]; exact hm
        clear he hd hr0
        rcases hd2 with rfl | rfl
        all_goals
         simp only [toNat34.1,toNat34.2] at hi2
         go_wp2
         go_round
         case rel => exact ⟨k + 2,j + 2,m + 1,_,rfl,by go_num,by omega,by omega,by omega,Lib.hid (by rw [ByteArray.size_append,hO.out]; rfl),Lib.hid (by have := hj.out; omega),hr2⟩
         case measure => simp [intOf]; omega
     ·have hz : decide ((s.size : Int) ≤ (k : Int) + 1) = true := by simp; omega
      rw [drop_end s (by omega),str_esc_bad (r := []) rfl,addC_bad _ _ _ (by decide)] at hr0
      subst hr0
      go_wp2
      refine bodyPost_ret (results_tmp4 rfl _ _ _) rfl ?_
      exact ⟨⟨_,_,_,rfl,fun h => (by cases h),fun _ => by have := hj.out; show (k : Int) = ((p + j : Nat) : Int); omega⟩,rfl⟩
    ·have n92 : ((c.toNat : Int) == 92) = false := (neb 92 (by omega) c92).1
     by_cases hm2 : m = 200
     ·subst hm2
      rw [str_full _ c34 hctl c92,addC_bad _ _ _ (by decide)] at hr0
      subst hr0
      have hOs : ((O.size : Int) == 200) = true := by rw [hO.out]; rfl
      clear hctl c34 c92
      go_wp2
      refine bodyPost_ret (results_tmp4 rfl _ _ _) rfl ?_
      exact ⟨⟨_,_,_,rfl,fun h => (by cases h),fun _ => by simp [bad]⟩,rfl⟩
     ·rw [str_byte _ c34 hctl c92 hm2,addC_addC,← app_list] at hr0
      have hr2 := Lib.hid hr0
      have hOs : ((O.size : Int) == 200) = false := by rw [hO.out]; simp; omega
      have hOb : O.size ≤ 200 := by rw [hO.out]; exact hm
      have sl := fun w => cut1 s k (k : Int) ((k : Int) + 1) rfl rfl hq w
      rw [hc] at sl
      clear hctl c34 c92 hr0
      go_wp2
      go_round
      case rel => exact ⟨k + 1,j + 1,m + 1,_,rfl,by go_num,by omega,by omega,by omega,Lib.hid (by rw [ByteArray.size_append,hO.out]; rfl),Lib.hid (by have := hj.out; omega),hr2⟩
      case measure => simp [intOf]; omega
  ·have hr0 := hr.out
   rw [drop_end s (by omega),str_nil,addC_bad _ _ _ (by decide)] at hr0
   subst hr0
   clear hr
   go_wp2
   refine bodyPost_ret (results_tmp4 rfl _ _ _) rfl ?_
   exact ⟨⟨_,_,_,rfl,fun h => (by cases h),fun _ => by simp [bad]⟩,rfl⟩

theorem rd_head {c : UInt8} {r : Txt} (h : headB c = true) : rdT (c :: r) = if 24 < runN (c :: r) then bad 0 3 else ⟨if wordB ((c :: r).take (runN (c :: r))) then 2 else 1,(c :: r).take (runN (c :: r)),0,runN (c :: r),0⟩ := by rw [rdT,if_pos h]
theorem rd_dig {c : UInt8} {r : Txt} (h : digB c = true) : rdT (c :: r) = if Num.parE ((c :: r).take (spanN digB (c :: r))) = 0 then ⟨3,[],Num.parV ((c :: r).take (spanN digB (c :: r))),spanN digB (c :: r),0⟩ else bad 0 (Num.parE ((c :: r).take (spanN digB (c :: r)))) := by
 rw [rdT,head_not_dig h,if_neg (by decide),if_pos h]
theorem rd_quo (r : Txt) : rdT (34 :: r) = strT 0 1 r := by rw [rdT,if_neg (by decide),if_neg (by decide),if_pos (by decide)]
theorem rd_at (r : Txt) : rdT (64 :: r) = if runN r = 0 then bad 0 1 else if 24 < runN r then bad 0 3 else ⟨6,r.take (runN r),0,runN r + 1,0⟩ := by rw [rdT,if_neg (by decide),if_neg (by decide),if_neg (by decide),if_pos (by decide)]
theorem rd_sym {c : UInt8} {r : Txt} (h1 : headB c = false) (h2 : digB c = false) (h3 : c ≠ 34) (h4 : c ≠ 64) : rdT (c :: r) = if symN (c :: r) = 0 then bad 0 1 else ⟨5,(c :: r).take (symN (c :: r)),0,symN (c :: r),0⟩ := by
 rw [rdT,h1,if_neg (by decide),h2,if_neg (by decide),if_neg (by simpa using h3),if_neg (by simpa using h4)]
theorem kind_quo : kindI 34 = 4 := by decide
theorem kind_host : kindI 64 = 5 := by decide
theorem kind_else {c : UInt8} (h1 : headB c = false) (h2 : digB c = false) (h3 : c ≠ 34) (h4 : c ≠ 64) : (kindI c == 2) = false ∧ (kindI c == 3) = false ∧ (kindI c == 4) = false ∧ (kindI c == 5) = false := by
 unfold kindI
 rw [h1,h2,show (c == 34) = false by simpa using h3,show (c == 64) = false by simpa using h4]
 cases blankB c <;> decide
theorem first_any (s : ByteArray) (hs : s.size ≤ 1000000) (h0 : 0 < s.size) (w : World) :
  Calls Tryz.prog 66 #[.string s] w fun e w' => e = rdV (rdT s.toList) ∧ Bel w w' := by
 have hm : s.size ≤ maxLen := by unfold maxLen; omega
 have hd : s.toList = s[0] :: s.toList.drop 1 := by have := drop_get s 0 h0; rwa [List.drop_zero] at this
 obtain ⟨R,hR⟩ : ∃ R,rdT s.toList = R := ⟨_,rfl⟩
 have hR0 := hR
 rw [hR]
 by_cases c1 : headB s[0] = true
 ·have H := Lib.hid (kind_head c1)
  rw [hd,rd_head c1,← hd] at hR
  have HC := Lib.hid (fun w => word_any s hm w)
  rw [hR] at HC
  clear hR hR0 hd c1 
  go_enter Tryz.func66,Tryz.ntmps66
  go_wp2_with (go_at_call 111; refine (kind_at _ _).mono ?_; rintro e w' ⟨rfl,rfl⟩; rw [H.out])
  refine (HC.out _).mono ?_
  unfold rdV
  rintro e w1 ⟨rfl,g⟩
  have B := Lib.hid (bel_first g)
  obtain ⟨t1,t2,t3,t4,f1,f2,f3,f4⟩ := (TkC.new w 0 0 0 ⟨#[]⟩ 54).on g
  clear g HC
  go_wp2
  exact bodyPost_ret (v := .tuple #[.agg #[.int .i64 R.k,.string ⟨R.s.toArray⟩,.int .i64 R.i,.int .i64 0],.int .i64 R.n,.int .i64 R.e]) (by simp [results,Tryz.results66,go_sem,t1,t2,t3,t4]) rfl ⟨rfl,((((B.out.setCell (Nat.le_refl _) _).setCell (Nat.le_refl _) _).setCell (Nat.le_refl _) _).setCell (Nat.le_refl _) _)⟩
 rw [Bool.not_eq_true] at c1
 by_cases c2 : digB s[0] = true
 ·have H := Lib.hid (kind_dig c2)
  rw [hd,rd_dig c2,← hd] at hR
  have HC := Lib.hid (fun w => integer_any s hm w)
  rw [hR] at HC
  clear hR hR0 hd c1 c2
  go_enter Tryz.func66,Tryz.ntmps66
  go_wp2_with (go_at_call 111; refine (kind_at _ _).mono ?_; rintro e w' ⟨rfl,rfl⟩; rw [H.out])
  refine (HC.out _).mono ?_
  unfold rdV
  rintro e w1 ⟨rfl,g⟩
  have B := Lib.hid (bel_first g)
  obtain ⟨t1,t2,t3,t4,f1,f2,f3,f4⟩ := (TkC.new w 0 0 0 ⟨#[]⟩ 54).on g
  clear g HC
  go_wp2
  exact bodyPost_ret (v := .tuple #[.agg #[.int .i64 R.k,.string ⟨R.s.toArray⟩,.int .i64 R.i,.int .i64 0],.int .i64 R.n,.int .i64 R.e]) (by simp [results,Tryz.results66,go_sem,t1,t2,t3,t4]) rfl ⟨rfl,((((B.out.setCell (Nat.le_refl _) _).setCell (Nat.le_refl _) _).setCell (Nat.le_refl _) _).setCell (Nat.le_refl _) _)⟩
 rw [Bool.not_eq_true] at c2
 by_cases c3 : s[0] = 34
 ·have H : Hid (kindI s[0] = 4) := Lib.hid (by rw [c3]; exact kind_quo)
  rw [hd,c3,rd_quo] at hR
  have HC := Lib.hid (fun w => quoted_any s hs h0 w)
  rw [hR] at HC
  clear hR hR0 hd c1 c2 c3
  go_enter Tryz.func66,Tryz.ntmps66
  go_wp2_with (go_at_call 111; refine (kind_at _ _).mono ?_; rintro e w' ⟨rfl,rfl⟩; rw [H.out])
  refine (HC.out _).mono ?_
  unfold rdV
  rintro e w1 ⟨rfl,g⟩
  have B := Lib.hid (bel_first g)
  obtain ⟨t1,t2,t3,t4,f1,f2,f3,f4⟩ := (TkC.new w 0 0 0 ⟨#[]⟩ 54).on g
  clear g HC
  go_wp2
  exact bodyPost_ret (v := .tuple #[.agg #[.int .i64 R.k,.string ⟨R.s.toArray⟩,.int .i64 R.i,.int .i64 0],.int .i64 R.n,.int .i64 R.e]) (by simp [results,Tryz.results66,go_sem,t1,t2,t3,t4]) rfl ⟨rfl,((((B.out.setCell (Nat.le_refl _) _).setCell (Nat.le_refl _) _).setCell (Nat.le_refl _) _).setCell (Nat.le_refl _) _)⟩
 by_cases c4 : s[0] = 64
 ·have H : Hid (kindI s[0] = 5) := Lib.hid (by rw [c4]; exact kind_host)
  have hd2 := hd
  rw [c4] at hd2
  rw [hd2,rd_at] at hR
  have HC := Lib.hid (fun w => host_any s hm _ hd2 w)
  rw [hR] at HC
  clear hR hR0 hd c1 c2 c3 c4 hd2
  go_enter Tryz.func66,Tryz.ntmps66
  go_wp2_with (go_at_call 111; refine (kind_at _ _).mono ?_; rintro e w' ⟨rfl,rfl⟩; rw [H.out])
  refine (HC.out _).mono ?_
  unfold rdV
  rintro e w1 ⟨rfl,g⟩
  have B := Lib.hid (bel_first g)
  obtain ⟨t1,t2,t3,t4,f1,f2,f3,f4⟩ := (TkC.new w 0 0 0 ⟨#[]⟩ 54).on g
  clear g HC
  go_wp2
  exact bodyPost_ret (v := .tuple #[.agg #[.int .i64 R.k,.string ⟨R.s.toArray⟩,.int .i64 R.i,.int .i64 0],.int .i64 R.n,.int .i64 R.e]) (by simp [results,Tryz.results66,go_sem,t1,t2,t3,t4]) rfl ⟨rfl,((((B.out.setCell (Nat.le_refl _) _).setCell (Nat.le_refl _) _).setCell (Nat.le_refl _) _).setCell (Nat.le_refl _) _)⟩
 obtain ⟨k2,k3,k4,k5⟩ := kind_else c1 c2 c3 c4
 obtain ⟨K,hK⟩ : ∃ K,kindI s[0] = K := ⟨_,rfl⟩
 have H := Lib.hid hK
 rw [hK] at k2 k3 k4 k5
 rw [hd,rd_sym c1 c2 c3 c4,← hd] at hR
 have HC := Lib.hid (fun w => sym_any s hm h0 w)
 rw [hR] at HC
 clear hR hR0 hd c1 c2 c3 c4 hK
 go_enter Tryz.func66,Tryz.ntmps66
 go_wp2_with (go_at_call 111; refine (kind_at _ _).mono ?_; rintro e w' ⟨rfl,rfl⟩; rw [H.out])
 refine (HC.out _).mono ?_
 unfold rdV
 rintro e w1 ⟨rfl,g⟩
 have B := Lib.hid (bel_first g)
 obtain ⟨t1,t2,t3,t4,f1,f2,f3,f4⟩ := (TkC.new w 0 0 0 ⟨#[]⟩ 54).on g
 clear g HC
 go_wp2
 exact bodyPost_ret (v := .tuple #[.agg #[.int .i64 R.k,.string ⟨R.s.toArray⟩,.int .i64 R.i,.int .i64 0],.int .i64 R.n,.int .i64 R.e]) (by simp [results,Tryz.results66,go_sem,t1,t2,t3,t4]) rfl ⟨rfl,((((B.out.setCell (Nat.le_refl _) _).setCell (Nat.le_refl _) _).setCell (Nat.le_refl _) _).setCell (Nat.le_refl _) _)⟩

def OneR (p : Nat) (R : Rd) (e : Ending) : Prop := ∃ (k i a en pl : Int) (s : ByteArray),e = .returned (.tuple #[.agg #[.int .i64 k,.string s,.int .i64 i,.int .i64 a],.int .i64 en,.int .i64 pl,.int .i64 R.e]) ∧ (R.e = 0 → k = R.k ∧ s = ⟨R.s.toArray⟩ ∧ i = R.i ∧ a = (p : Int) ∧ en = ((p + R.n : Nat) : Int)) ∧ (R.e ≠ 0 → pl = ((p + R.n : Nat) : Int))
theorem OneR.bad (p n : Nat) (E a en pl : Int) (hE : E ≠ 0) (hp : pl = ((p + n : Nat) : Int)) (k i : Int) (s : ByteArray) : OneR p (Lex.bad n E) (.returned (.tuple #[.agg #[.int .i64 k,.string s,.int .i64 i,.int .i64 a],.int .i64 en,.int .i64 pl,.int .i64 E])) :=
 ⟨k,i,a,en,pl,s,rfl,fun h => absurd h hE,fun _ => hp⟩
theorem OneR.ok (p q : Nat) (k i : Int) (s : Txt) (n : Nat) (pl en : Int) (T : ByteArray) (hT : T = ⟨s.toArray⟩) (hq : en = (q : Int)) (hn : q = p + n) : OneR p ⟨k,s,i,n,0⟩ (.returned (.tuple #[.agg #[.int .i64 k,.string T,.int .i64 i,.int .i64 p],.int .i64 en,.int .i64 pl,.int .i64 0])) :=
 ⟨k,i,p,en,pl,T,rfl,fun _ => ⟨rfl,hT,rfl,rfl,by rw [hq,hn]⟩,fun h => absurd rfl h⟩
theorem one_any (s : ByteArray) (hs : s.size ≤ 1000000) (p : Nat) (hp : p < s.size) (w : World) :
  Calls Tryz.prog 70 #[.string s,.int .i64 (p : Int)] w fun e w' => OneR p (rdT (s.toList.drop p)) e ∧ Bel w w' := by
 have hm : s.size ≤ maxLen := by unfold maxLen; omega
 have hd := drop_get s p hp
 have HD0 := dig_byte s[p]
 obtain ⟨R,hR⟩ : ∃ R,rdT (s.toList.drop p) = R := ⟨_,rfl⟩
 rw [hR]
 by_cases c2 : digB s[p] = true
 ·have HD := Lib.hid (HD0.symm.trans c2)
  rw [hd,rd_dig c2,← hd] at hR
  have HC := Lib.hid (fun w => rnumber_any s hs p hp c2 w)
  generalize Num.parV ((s.toList.drop p).take (spanN digB (s.toList.drop p))) = V at HC hR
  generalize Num.parE ((s.toList.drop p).take (spanN digB (s.toList.drop p))) = E at HC hR
  obtain ⟨q,hq⟩ : ∃ q,p + spanN digB (s.toList.drop p) = q := ⟨_,rfl⟩
  rw [hq] at HC
  have hF : Hid (∀ v en : Int,(E = 0 → v = V ∧ en = (q : Int)) → OneR p R (.returned (.tuple #[.agg #[.int .i64 3,.string ⟨#[]⟩,.int .i64 v,.int .i64 (p : Int)],.int .i64 en,.int .i64 (p : Int),.int .i64 E]))) := Lib.hid (by
   intro v en h
   rw [← hR]
   by_cases hE : E = 0
   ·obtain ⟨rfl,rfl⟩ := h hE
    rw [if_pos hE,hE]
    exact OneR.ok p q _ _ _ _ _ _ _ rfl rfl hq.symm
   ·rw [if_neg hE]
    exact OneR.bad p 0 E _ _ _ hE rfl _ _ _)
  clear hR hd c2 HD0 hq
  go_enter Tryz.func70,Tryz.ntmps70
  go_wp2_with (go_at_call 126; refine (digit_any _ _).mono ?_; rintro e w' ⟨rfl,rfl⟩; rw [HD.out])
  refine (HC.out _).mono ?_
  rintro e w' ⟨⟨v,en,rfl,h⟩,rfl⟩
  have H := Lib.hid (hF.out v en h)
  clear hF h HC
  go_wp2
  refine bodyPost_ret (v := .tuple #[.agg #[.int .i64 3,.string ⟨#[]⟩,.int .i64 v,.int .i64 (p : Int)],.int .i64 en,.int .i64 (p : Int),.int .i64 E]) (by simp [results,Tryz.results70,go_sem]) rfl ⟨?_,Bel.alloc (Bel.refl _) _⟩
  exact H.out
 rw [Bool.not_eq_true] at c2
 have HD := Lib.hid (HD0.symm.trans c2)
 by_cases c3 : s[p] = 34
 ·rw [hd,c3,rd_quo] at hR
  have HC := Lib.hid (fun w => rtext_any s hs p hp w)
  rw [hR] at HC
  have hi := fun w => idx_str s .i64 (p : Int) p rfl hp w
  have hF : Hid (∀ (t : ByteArray) (en pl : Int),(R.e = 0 → t = ⟨R.s.toArray⟩ ∧ en = ((p + R.n : Nat) : Int)) → (R.e ≠ 0 → pl = ((p + R.n : Nat) : Int)) → OneR p R (.returned (.tuple #[.agg #[.int .i64 4,.string t,.int .i64 0,.int .i64 (p : Int)],.int .i64 en,.int .i64 pl,.int .i64 R.e]))) := Lib.hid (by
   intro t en pl h1 h2
   refine ⟨4,0,p,en,pl,t,rfl,fun h => ?_,h2⟩
   have hk : StrOk 0 1 (s.toList.drop (p + 1)) R := by rw [← hR]; exact strT_back _ 0 1 (by omega) (by rw [hR]; exact h)
   exact ⟨hk.1.symm,(h1 h).1,hk.2.1.symm,rfl,(h1 h).2⟩)
  have e34 : ((s[p].toNat : Int) == 34) = true := by rw [c3]; rfl
  clear hR hd c2 HD0 c3 hi
  go_enter Tryz.func70,Tryz.ntmps70
  go_wp2_with (go_at_call 126; refine (digit_any _ _).mono ?_; rintro e w' ⟨rfl,rfl⟩; rw [HD.out])
  refine (HC.out _).mono ?_
  rintro e w' ⟨⟨t,en,pl,rfl,h1,h2⟩,rfl⟩
  have H := Lib.hid (hF.out t en pl h1 h2)
  clear hF h1 h2 HC
  go_wp2
  refine bodyPost_ret (v := .tuple #[.agg #[.int .i64 4,.string t,.int .i64 0,.int .i64 (p : Int)],.int .i64 en,.int .i64 pl,.int .i64 R.e]) (by simp [results,Tryz.results70,go_sem]) rfl ⟨?_,Bel.alloc (Bel.refl _) _⟩
  exact H.out
 have n34 : ((s[p].toNat : Int) == 34) = false := (neb 34 (by omega) c3).1
 by_cases c4 : s[p] = 64
 ·rw [hd,c4,rd_at] at hR
  have e64 : ((s[p].toNat : Int) == 64) = true := by rw [c4]; rfl
  have hle := run_le (s.toList.drop (p + 1))
  rw [List.length_drop,toL_len] at hle
  have HR := Lib.hid (fun w => rrun_any s hm (p + 1) w)
  rw [Int.natCast_add,show ((1 : Nat) : Int) = 1 from rfl] at HR
  obtain ⟨N,hN⟩ : ∃ N,runN (s.toList.drop (p + 1)) = N := ⟨_,rfl⟩
  rw [hN] at hle HR hR
  obtain ⟨q,hq⟩ : ∃ q,p + 1 + N = q := ⟨_,rfl⟩
  rw [hq] at HR
  clear hd c2 HD0 c3 c4 hN
  by_cases h0 : N = 0
  ·rw [if_pos h0] at hR
   subst hR
   have hqe : ((q : Int) == (p : Int) + 1) = true := by simp; omega
   clear hq h0
   go_enter Tryz.func70,Tryz.ntmps70
   go_wp2_with (first | (go_at_call 126; refine (digit_any _ _).mono ?_; rintro e w' ⟨rfl,rfl⟩; rw [HD.out]) | (go_at_call 129; refine (HR.out _).mono ?_; rintro e w' ⟨rfl,rfl⟩))
   refine bodyPost_ret (v := .tuple #[.agg #[.int .i64 0,.string ⟨#[]⟩,.int .i64 0,.int .i64 0],.int .i64 0,.int .i64 (p : Int),.int .i64 1]) (by simp [results,Tryz.results70,go_sem]) rfl ⟨?_,Bel.alloc (Bel.refl _) _⟩
   exact OneR.bad p 0 1 _ _ _ (by decide) rfl _ _ _
  rw [if_neg h0] at hR
  have hqe : ((q : Int) == (p : Int) + 1) = false := by simp; omega
  by_cases h24 : 24 < N
  ·rw [if_pos h24] at hR
   subst hR
   have hlt : (p : Int) + 1 + 24 < (q : Int) := by omega
   clear hq
   go_enter Tryz.func70,Tryz.ntmps70
   go_wp2_with (first | (go_at_call 126; refine (digit_any _ _).mono ?_; rintro e w' ⟨rfl,rfl⟩; rw [HD.out]) | (go_at_call 129; refine (HR.out _).mono ?_; rintro e w' ⟨rfl,rfl⟩))
   refine bodyPost_ret (v := .tuple #[.agg #[.int .i64 0,.string ⟨#[]⟩,.int .i64 0,.int .i64 0],.int .i64 0,.int .i64 (p : Int),.int .i64 3]) (by simp [results,Tryz.results70,go_sem]) rfl ⟨?_,Bel.alloc (Bel.refl _) _⟩
   exact OneR.bad p 0 3 _ _ _ (by decide) rfl _ _ _
  ·rw [if_neg h24] at hR
   subst hR
   have hlt : ¬ (p : Int) + 1 + 24 < (q : Int) := by omega
   have hqs : q ≤ s.size := by omega
   have sl := fun w => cutS s (p + 1) q ((p : Int) + 1) (q : Int) (by omega) rfl (by omega) hqs w
   rw [show q - (p + 1) = N by omega] at sl
   have H := Lib.hid (OneR.ok p q 6 0 ((s.toList.drop (p + 1)).take N) (N + 1) 0 q _ rfl rfl (by omega))
   generalize (⟨((s.toList.drop (p + 1)).take N).toArray⟩ : ByteArray) = T at sl H
   clear hq
   go_enter Tryz.func70,Tryz.ntmps70
   go_wp2_with (first | (go_at_call 126; refine (digit_any _ _).mono ?_; rintro e w' ⟨rfl,rfl⟩; rw [HD.out]) | (go_at_call 129; refine (HR.out _).mono ?_; rintro e w' ⟨rfl,rfl⟩))
   refine bodyPost_ret (v := .tuple #[.agg #[.int .i64 6,.string T,.int .i64 0,.int .i64 (p : Int)],.int .i64 (q : Int),.int .i64 0,.int .i64 0]) (by simp [results,Tryz.results70,go_sem]) rfl ⟨?_,Bel.alloc (Bel.refl _) _⟩
   exact H.out
 have n64 : ((s[p].toNat : Int) == 64) = false := (neb 64 (by omega) c4).1
 have hle := run_le (s.toList.drop p)
 rw [List.length_drop,toL_len] at hle
 have HR := Lib.hid (fun w => rrun_any s hm p w)
 by_cases c1 : headB s[p] = true
 ·rw [hd,rd_head c1,← hd] at hR
  have h0 : 0 < runN (s.toList.drop p) := by rw [hd,run_cons,if_pos c1]; omega
  obtain ⟨N,hN⟩ : ∃ N,runN (s.toList.drop p) = N := ⟨_,rfl⟩
  rw [hN] at hle HR hR h0
  obtain ⟨q,hq⟩ : ∃ q,p + N = q := ⟨_,rfl⟩
  rw [hq] at HR
  clear hd c2 HD0 c3 c4 hN c1
  by_cases h24 : 24 < N
  ·rw [if_pos h24] at hR
   subst hR
   have hlt : (p : Int) + 24 < (q : Int) := by omega
   clear hq
   go_enter Tryz.func70,Tryz.ntmps70
   go_wp2_with (first | (go_at_call 126; refine (digit_any _ _).mono ?_; rintro e w' ⟨rfl,rfl⟩; rw [HD.out]) | (go_at_call 129; refine (HR.out _).mono ?_; rintro e w' ⟨rfl,rfl⟩))
   refine bodyPost_ret (v := .tuple #[.agg #[.int .i64 0,.string ⟨#[]⟩,.int .i64 0,.int .i64 0],.int .i64 0,.int .i64 (p : Int),.int .i64 3]) (by simp [results,Tryz.results70,go_sem]) rfl ⟨?_,Bel.alloc (Bel.refl _) _⟩
   exact OneR.bad p 0 3 _ _ _ (by decide) rfl _ _ _
  ·rw [if_neg h24] at hR
   have hlt : ¬ (p : Int) + 24 < (q : Int) := by omega
   have hqs : q ≤ s.size := by omega
   have hpq : (p : Int) < (q : Int) := by omega
   have hpq2 : decide (p < q) = true := by simp; omega
   have sl := fun w => cutS s p q (p : Int) (q : Int) rfl rfl (by omega) hqs w
   rw [show q - p = N by omega] at sl
   have H1 := Lib.hid (OneR.ok p q 1 0 ((s.toList.drop p).take N) N 0 q _ rfl rfl (by omega))
   have H2 := Lib.hid (OneR.ok p q 2 0 ((s.toList.drop p).take N) N 0 q _ rfl rfl (by omega))
   obtain ⟨T,hT⟩ : ∃ T : ByteArray,⟨((s.toList.drop p).take N).toArray⟩ = T := ⟨_,rfl⟩
   have hTl : (s.toList.drop p).take N = T.toList := by rw [← hT]; exact (tl _).symm
   rw [hT] at sl H1 H2
   rw [hTl] at H1 H2 hR
   have HK := Lib.hid (fun w => rkeyword_any T w)
   clear hq hT hTl
   cases hb : wordB T.toList with
   | true =>
    rw [hb] at HK hR
    subst hR
    clear hb
    go_enter Tryz.func70,Tryz.ntmps70
    go_wp2_with (first | (go_at_call 126; refine (digit_any _ _).mono ?_; rintro e w' ⟨rfl,rfl⟩; rw [HD.out]) | (go_at_call 129; refine (HR.out _).mono ?_; rintro e w' ⟨rfl,rfl⟩) | (go_at_call 130; refine (HK.out _).mono ?_; rintro e w' ⟨rfl,rfl⟩))
    refine bodyPost_ret (v := .tuple #[.agg #[.int .i64 2,.string T,.int .i64 0,.int .i64 (p : Int)],.int .i64 (q : Int),.int .i64 0,.int .i64 0]) (by simp [results,Tryz.results70,go_sem]) rfl ⟨?_,Bel.alloc (Bel.refl _) _⟩
    exact H2.out
   | false =>
    rw [hb] at HK hR
    subst hR
    clear hb
    go_enter Tryz.func70,Tryz.ntmps70
    go_wp2_with (first | (go_at_call 126; refine (digit_any _ _).mono ?_; rintro e w' ⟨rfl,rfl⟩; rw [HD.out]) | (go_at_call 129; refine (HR.out _).mono ?_; rintro e w' ⟨rfl,rfl⟩) | (go_at_call 130; refine (HK.out _).mono ?_; rintro e w' ⟨rfl,rfl⟩))
    refine bodyPost_ret (v := .tuple #[.agg #[.int .i64 1,.string T,.int .i64 0,.int .i64 (p : Int)],.int .i64 (q : Int),.int .i64 0,.int .i64 0]) (by simp [results,Tryz.results70,go_sem]) rfl ⟨?_,Bel.alloc (Bel.refl _) _⟩
    exact H1.out
 ·rw [Bool.not_eq_true] at c1
  have hr0 : runN (s.toList.drop p) = 0 := by rw [hd,run_cons,c1]; rfl
  rw [hr0,Nat.add_zero] at HR
  rw [hd,rd_sym c1 c2 c3 c4,← hd] at hR
  have HS := Lib.hid (fun w => rsym_any s hs p hp w)
  have hsl : symN (s.toList.drop p) ≤ (s.toList.drop p).length := by
   rw [hd]
   by_cases g : symN (s[p] :: s.toList.drop (p + 1)) = 0
   ·rw [g]; exact Nat.zero_le _
   ·rcases sym_one g with ⟨d,z,e,_,e2⟩ | ⟨_,e2,_⟩
    ·rw [e2,e]; simp
    ·rw [e2]; simp
  rw [List.length_drop,toL_len] at hsl
  obtain ⟨N,hN⟩ : ∃ N,symN (s.toList.drop p) = N := ⟨_,rfl⟩
  rw [hN] at hsl HS hR
  obtain ⟨q,hq⟩ : ∃ q,p + N = q := ⟨_,rfl⟩
  rw [hq] at HS
  clear hd c2 HD0 c3 c4 hN c1 hr0
  by_cases h0 : N = 0
  ·rw [if_pos h0] at hR
   subst hR
   obtain rfl : q = p := by omega
   clear hq
   go_enter Tryz.func70,Tryz.ntmps70
   go_wp2_with (first | (go_at_call 126; refine (digit_any _ _).mono ?_; rintro e w' ⟨rfl,rfl⟩; rw [HD.out]) | (go_at_call 129; refine (HR.out _).mono ?_; rintro e w' ⟨rfl,rfl⟩) | (go_at_call 131; refine (HS.out _).mono ?_; rintro e w' ⟨rfl,rfl⟩))
   refine bodyPost_ret (v := .tuple #[.agg #[.int .i64 0,.string ⟨#[]⟩,.int .i64 0,.int .i64 0],.int .i64 0,.int .i64 (q : Int),.int .i64 1]) (by simp [results,Tryz.results70,go_sem]) rfl ⟨?_,Bel.alloc (Bel.refl _) _⟩
   exact OneR.bad q 0 1 _ _ _ (by decide) rfl _ _ _
  ·rw [if_neg h0] at hR
   subst hR
   have hqp : ((q : Int) == (p : Int)) = false := by simp; omega
   have hqs : q ≤ s.size := by omega
   have sl := fun w => cutS s p q (p : Int) (q : Int) rfl rfl (by omega) hqs w
   rw [show q - p = N by omega] at sl
   have H := Lib.hid (OneR.ok p q 5 0 ((s.toList.drop p).take N) N 0 q _ rfl rfl (by omega))
   generalize (⟨((s.toList.drop p).take N).toArray⟩ : ByteArray) = T at sl H
   clear hq
   go_enter Tryz.func70,Tryz.ntmps70
   go_wp2_with (first | (go_at_call 126; refine (digit_any _ _).mono ?_; rintro e w' ⟨rfl,rfl⟩; rw [HD.out]) | (go_at_call 129; refine (HR.out _).mono ?_; rintro e w' ⟨rfl,rfl⟩) | (go_at_call 131; refine (HS.out _).mono ?_; rintro e w' ⟨rfl,rfl⟩))
   refine bodyPost_ret (v := .tuple #[.agg #[.int .i64 5,.string T,.int .i64 0,.int .i64 (p : Int)],.int .i64 (q : Int),.int .i64 0,.int .i64 0]) (by simp [results,Tryz.results70,go_sem]) rfl ⟨?_,Bel.alloc (Bel.refl _) _⟩
   exact H.out
end Lex
end Go.Proofs.YtcapkeaedpabjaaGreatDoor
