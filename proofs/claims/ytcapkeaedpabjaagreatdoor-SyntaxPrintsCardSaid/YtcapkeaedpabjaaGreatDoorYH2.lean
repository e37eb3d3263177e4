/-
  Layer 8, texts merged: SpD, SpE, SpF, SpG, SpP. For every argument within the bounds that each theorem names.
-/
import Derived.Test.YtcapkeaedpabjaaGreatDoorYH1
import Derived.Test.YtcapkeaedpabjaaGreatDoorYE2
import Derived.Test.YtcapkeaedpabjaaGreatDoorYF6
import Derived.Laws.Pointers
set_option maxRecDepth 100000
set_option maxHeartbeats 16000000

/-
 Layer 8: Print, as the program has it.
-/
namespace Go.Proofs.YtcapkeaedpabjaaGreatDoor
open Go.RowKit Go.ChangeShapes Go.WideShapes
namespace Syn

theorem names_txt (ps : List Txt) : (ps.map fun s => [nI s]).map txt = ps := by
 rw [List.map_map]
 conv => rhs; rw [← List.map_id ps]
 refine List.map_congr_left fun s _ => ?_
 show s ++ [] = s
 rw [List.append_nil]
theorem joinP_any (po : Option Addr) (k pc : Nat) (hk : k ≤ 100000) (hc : k ≤ pc) (ps : List Txt) (w : World) (hA : SArg w po k ps) (hlen : (txt (sep (ps.map fun s => [nI s]))).length ≤ 1000000000) :
  Calls Tryz.prog 46 #[.slice po k pc,.string ⟨#[44,32]⟩] w fun e w' => e = .returned (.string ⟨(txt (sep (ps.map fun s => [nI s]))).toArray⟩) ∧ Bel w w' := by
 have hl := hA.1
 have hj : Lib.join ps [44,32] = txt (sep (ps.map fun s => [nI s])) := by rw [← join_row,names_txt]
 rcases Nat.eq_zero_or_pos k with rfl | h0
 ·obtain rfl := List.length_eq_zero_iff.1 hl
  refine (Tryz.strings_Join_none po pc ⟨#[44,32]⟩ w).mono ?_
  rintro e w' ⟨rfl,rfl⟩
  exact ⟨rfl,Bel.refl _⟩
 ·obtain ⟨b,off,rfl,hcl⟩ := hA.2 h0
  have hm : (ps.map fun s => (⟨s.toArray⟩ : ByteArray)).map (·.data.toList) = ps := by
   rw [List.map_map]
   conv => rhs; rw [← List.map_id ps]
   exact List.map_congr_left fun s _ => rfl
  have := Tryz.strings_Join b off pc (ps.map fun s => ⟨s.toArray⟩) ⟨#[44,32]⟩ w (fun j x hx => by
   rw [List.getElem?_map] at hx
   cases hj2 : ps[j]? with
   | none => rw [hj2] at hx; cases hx
   | some y =>
    rw [hj2] at hx
    obtain ⟨hlt,he⟩ := List.getElem?_eq_some_iff.1 hj2
    have := hcl j hlt
    rw [he] at this
    simp only [Option.map_some,Option.some.injEq] at hx
    rw [← hx]
    exact this) (cell_lt' (hcl 0 (by omega))) (by rw [List.length_map]; omega) (by rw [List.length_map]; omega) (by rw [hm]; show (Lib.join ps [44,32]).length ≤ _; rw [hj]; omega)
  rw [hm,List.length_map,hl,show (⟨#[44,32]⟩ : ByteArray).data.toList = [44,32] from rfl,hj] at this
  exact this
theorem itW_snoc (fs : List Fu) (f : Fu) : txt (itW (fs ++ [f])) = txt (itW fs) ++ txt (itF f) := by
 unfold itW
 rw [List.flatMap_append,txt_app]
 simp
theorem itF_txt (f : Fu) : txt (itF f) = [102,117,110,99,32] ++ (f.name ++ ([40] ++ (txt (sep (f.params.map fun s => [nI s])) ++ ([41,32] ++ (txt (itB 0 f.body) ++ [10]))))) := by
 unfold itF
 simp only [List.cons_append,List.append_assoc]
 rw [txt_w,txt_sp,txt_n,txt_s,txt_app,txt_s,txt_sp,txt_app,txt_gap,txt_nil]
 rfl
theorem itW_take (fs : List Fu) (q : Nat) : (txt (itW (fs.take q))).length ≤ (txt (itW fs)).length := by
 conv => rhs; rw [← List.take_append_drop q fs]
 unfold itW
 rw [List.flatMap_append,txt_app,List.length_append]
 omega
def prE (fs : List Fu) : Int := (Lex.tokens (txt (itW fs))).e
def prT (fs : List Fu) : Txt := if prE fs = 0 then txt (itW fs) else []
theorem print_bad (no fo : Option Addr) (n nc k fc : Nat) (L : List Nd) (F : List Fw) (hk : k ≤ 4611686018427387904) (hn : n ≤ 4611686018427387904) (w : World) (hm : Lex.ML w) (hA : NArg w no n L) (hF : FArg w fo k F) (hwf : WfN L) (hwF : ∀ x ∈ F,x.params.length ≤ 4611686018427387904) (hc : chkE L F ≠ 0) :
  Calls Tryz.prog 14 #[.agg #[.slice no n nc,.slice fo k fc]] w fun e w' => e = .returned (.tuple #[.string ⟨#[]⟩,.int .i64 (chkE L F)]) ∧ Bel w w' := by
 obtain ⟨V,hV⟩ : ∃ V,w.alloc (.cells #[.slice no n nc,.slice fo k fc] 25) = V := ⟨_,rfl⟩
 have BV : Bel w V := by rw [← hV]; exact Bel.alloc (Bel.refl w) _
 obtain ⟨v0,v1⟩ : V.cell? ⟨w.heap.size,0,none⟩ = some (.slice no n nc) ∧ V.cell? ⟨w.heap.size,1,none⟩ = some (.slice fo k fc) := by
  rw [← hV]
  exact ⟨World.cell?_alloc_new ..,World.cell?_alloc_new ..⟩
 have HBV := Lib.hid BV
 have HCh := Lib.hid (check_any no fo n nc k fc L F hk hn V (hm.on BV) (hA.on BV) (hF.on BV) hwf hwF)
 generalize chkE L F = cc at *
 clear hA hF hwf hwF hm BV
 go_enter Tryz.func14,Tryz.ntmps14
 go_wp2_with fail
 refine HCh.out.mono ?_
 rintro e w2 ⟨rfl,g⟩
 have G := Lib.hid (Bel.trans HBV.out g)
 clear g v0 v1
 go_wp2_with fail
 go_ret2
 exact ⟨rfl,G.out⟩
theorem print_ok (no fo : Option Addr) (n nc k fc : Nat) (fs : List Fu) (hg : ∀ f ∈ fs,goodFu f) (w : World) (hm : Lex.ML w) (hA : NArg w no n (flatF 0 fs)) (hF : FArg w fo k (funcF 0 fs)) (hwf : WfN (flatF 0 fs)) (hc : chkE (flatF 0 fs) (funcF 0 fs) = 0) :
  Calls Tryz.prog 14 #[.agg #[.slice no n nc,.slice fo k fc]] w fun e w' => e = .returned (.tuple #[.string ⟨(prT fs).toArray⟩,.int .i64 (prE fs)]) ∧ Bel w w' := by
 have hlen := chk_ok hc
 rw [flatF_len,funcF_len] at hlen
 have hpar : ∀ f ∈ fs,f.params.length ≤ 8 := by
  unfold chkE at hc
  split at hc
  ·cases hc
  split at hc
  ·cases hc
  split at hc
  ·cases hc
  ·rename_i h
   intro f hf
   obtain ⟨i,hi,rfl⟩ := List.mem_iff_getElem.1 hf
   obtain ⟨z,hz,-⟩ := at_func fs [] [] i hi
   have hmem := List.mem_of_getElem? hz
   rcases Nat.lt_or_ge 8 fs[i].params.length with q | q
   ·refine absurd (Or.inl ?_) h
    rw [List.any_eq_true]
    exact ⟨_,hmem,by simpa using q⟩
   ·exact q
 have hsz : ∀ f ∈ fs,goodFu f ∧ f.params.length ≤ 8 ∧ size f.body ≤ 1000 := fun f hf => ⟨hg f hf,hpar f hf,by have := size_mem fs f hf; omega⟩
 have hW := len_W fs hsz
 have hfs : fs.length = k := by have := hF.1; rw [funcF_len] at this; exact this
 have hnn : (flatF 0 fs).length = n := hA.1
 obtain ⟨V,hV⟩ : ∃ V,w.alloc (.cells #[.slice no n nc,.slice fo k fc] 25) = V := ⟨_,rfl⟩
 have BV : Bel w V := by rw [← hV]; exact Bel.alloc (Bel.refl w) _
 obtain ⟨v0,v1⟩ : V.cell? ⟨w.heap.size,0,none⟩ = some (.slice no n nc) ∧ V.cell? ⟨w.heap.size,1,none⟩ = some (.slice fo k fc) := by
  rw [← hV]
  exact ⟨World.cell?_alloc_new ..,World.cell?_alloc_new ..⟩
 have HBV := Lib.hid BV
 have HV0 := Lib.hid v0
 have HCh := Lib.hid (check_any no fo n nc k fc (flatF 0 fs) (funcF 0 fs) (by omega) (by rw [← hnn,flatF_len]; omega) V (hm.on BV) (hA.on BV) (hF.on BV) hwf (fun x hx => by
  obtain ⟨i,hi,rfl⟩ := List.mem_iff_getElem.1 hx
  have hi2 : i < fs.length := by rw [funcF_len] at hi; exact hi
  obtain ⟨z,hz,-⟩ := at_func fs [] [] i hi2
  obtain ⟨_,he⟩ := List.getElem?_eq_some_iff.1 hz
  rw [show (funcF 0 fs)[i] = _ from he]
  have := hpar fs[i] (List.getElem_mem hi2)
  dsimp only
  omega))
 rw [hc] at HCh
 have HF := Lib.hid hF
 have HA := Lib.hid hA
 have HM := Lib.hid hm
 have HG := Lib.hid hsz
 have Hfs := Lib.hid hfs
 have HW := Lib.hid hW
 have hkk : k ≤ 100000 := by omega
 have Hsum := Lib.hid (show sizeF fs ≤ 600 ∧ fs.length ≤ 16 from ⟨hlen.1,hlen.2.1⟩)
 obtain ⟨RT,hRT⟩ : ∃ RT,prT fs = RT := ⟨_,rfl⟩
 obtain ⟨RE,hRE⟩ : ∃ RE,prE fs = RE := ⟨_,rfl⟩
 have HRT := Lib.hid hRT
 have HRE := Lib.hid hRE
 rw [hRT,hRE]
 clear hA hF hwf hm BV hc hg hpar hsz hW hlen hfs hnn hRT hRE
 go_enter Tryz.func14,Tryz.ntmps14
 go_wp2_with fail
 refine HCh.out.mono ?_
 rintro e w1 ⟨rfl,g⟩
 have v0 := g.cell' v0
 have v1 := g.cell' v1
 have HB1 := Lib.hid g
 clear g HCh hV
 go_wp2_with fail
 go_loopw [5,19] (fun tv iv wr => ∃ (q : Nat) (T : ByteArray),tv = .string T ∧ iv = .int .i64 (q : Int) ∧ q ≤ k ∧ Hid (T.toList = txt (itW (fs.take q))) ∧ Hid (Bel V wr)) (fun _ iv _ => k - (intOf iv).toNat)
 case atStart => exact ⟨0,_,rfl,rfl,Nat.zero_le _,Lib.hid (by rw [List.take_zero]; exact tlB _),HB1⟩
 case round =>
  obtain ⟨q,T,rfl,rfl,hq,hTl,hB⟩ := hrel
  rename World => wr
  have hTs : T.size ≤ 100000000 := by
   rw [← Lex.toL_len,hTl.out]
   have h1 := itW_take fs q
   have h2 := HW.out
   have h3 := Hsum.out
   have h4 := Hfs.out
   omega
  by_cases hqk : q < k
  ·have hql : q < fs.length := by rw [Hfs.out]; exact hqk
   obtain ⟨bF,offF,rfl,hcs⟩ := HF.out.2 (by omega)
   obtain ⟨z,hz,hat⟩ := at_func fs [] [] q hql
   rw [List.nil_append,List.append_nil] at hat
   obtain ⟨hqF,hze⟩ := List.getElem?_eq_some_iff.1 hz
   obtain ⟨v,hv,hcc⟩ := hcs q hqF
   have hze2 : (funcF 0 fs)[q] = ⟨fs[q].name,fs[q].params,(z : Int)⟩ := hze
   rw [hze2] at hv
   obtain ⟨hgf,hp8,hsb⟩ := HG.out fs[q] (List.getElem_mem hql)
   have hsp := hv.sps
   obtain ⟨vs,po,pk,pc,vj⟩ := v
   obtain rfl : vs = fs[q].name := hv.s
   obtain rfl : vj = (z : Int) := hv.j
   have hpk : fs[q].params.length = pk := hsp.1
   have hpc : pk ≤ pc := hv.pc
   have c0 := hB.out.cell' (HBV.out.cell' (show w.cell? ⟨bF,offF + q * 3,none⟩ = some (.string ⟨fs[q].name.toArray⟩) by simpa using hcc 0 _ rfl))
   have c1 := hB.out.cell' (HBV.out.cell' (show w.cell? ⟨bF,offF + q * 3 + 1,none⟩ = some (.slice po pk pc) by simpa using hcc 1 _ rfl))
   have c2 := hB.out.cell' (HBV.out.cell' (show w.cell? ⟨bF,offF + q * 3 + 2,none⟩ = some (.int .i64 (z : Int)) by simpa using hcc 2 _ rfl))
   have z0 := hB.out.cell' HV0.out
   obtain ⟨V2,hV2⟩ : ∃ V2,wr.alloc (.cells #[.string ⟨fs[q].name.toArray⟩,.slice po pk pc,.int .i64 (z : Int)] 61) = V2 := ⟨_,rfl⟩
   have B2 : Bel wr V2 := by rw [← hV2]; exact Bel.alloc (Bel.refl wr) _
   obtain ⟨y0,y1,y2⟩ : V2.cell? ⟨wr.heap.size,0,none⟩ = some (.string ⟨fs[q].name.toArray⟩) ∧ V2.cell? ⟨wr.heap.size,1,none⟩ = some (.slice po pk pc) ∧ V2.cell? ⟨wr.heap.size,2,none⟩ = some (.int .i64 (z : Int)) := by
    rw [← hV2]
    exact ⟨World.cell?_alloc_new ..,World.cell?_alloc_new ..,World.cell?_alloc_new ..⟩
   have z0 := B2.cell' z0
   have HBw2 := Lib.hid (Bel.trans HBV.out (Bel.trans hB.out B2))
   have HB2 := Lib.hid (Bel.trans hB.out B2)
   have hnl := name_len hgf.2.2.1
   have hpl := names_len fs[q].params hgf.2.2.2
   have hbl := len_B (good_body hgf) 0 (by omega)
   have hqsz := size_mem fs fs[q] (List.getElem_mem hql)
   have htk : txt (itW (fs.take (q + 1))) = txt (itW (fs.take q)) ++ txt (itF fs[q]) := by rw [List.take_succ_eq_append_getElem hql,itW_snoc]
   rw [itF_txt] at htk
   have HJ0 := Lib.hid (fun W (B : Bel w W) => joinP_any po pk pc (by omega) hpc fs[q].params W (hsp.on B) (by omega))
   have HK0 := Lib.hid (fun W (B : Bel w W) => pB (no := no) (n := n) (nc := nc) (good_body hgf) z hat 0 (by omega) W (HA.out.on B) (HM.out.on B))
   rw [show (⟨(txt (tabs 0)).toArray⟩ : ByteArray) = ⟨#[]⟩ from rfl] at HK0
   obtain ⟨N,hN⟩ : ∃ N : ByteArray,⟨fs[q].name.toArray⟩ = N := ⟨_,rfl⟩
   obtain ⟨J,hJ⟩ : ∃ J : ByteArray,⟨(txt (sep (fs[q].params.map fun s => [nI s]))).toArray⟩ = J := ⟨_,rfl⟩
   obtain ⟨K,hK⟩ : ∃ K : ByteArray,⟨(txt (itB 0 fs[q].body)).toArray⟩ = K := ⟨_,rfl⟩
   have hNs : N.size ≤ 402 := by rw [← hN,← Lex.toL_len,tlB]; exact hnl
   have hJs : J.size ≤ 10000 := by rw [← hJ,← Lex.toL_len,tlB]; omega
   have hKs : K.size ≤ 10000000 := by rw [← hK,← Lex.toL_len,tlB]; omega
   have hT2 : Hid ((T ++ (⟨#[102,117,110,99,32]⟩ ++ N ++ ⟨#[40]⟩ ++ J ++ ⟨#[41,32]⟩ ++ K ++ ⟨#[10]⟩)).toList = txt (itW (fs.take (q + 1)))) := Lib.hid (by
    rw [htk,← hTl.out,← hN,← hJ,← hK]
    simp [Go.ByteArray.toList_eq])
   rw [hN] at c0 y0 hV2
   rw [hJ] at HJ0
   rw [hK] at HK0
   have HJ := Lib.hid (show ∀ W,(W.cell? ⟨wr.heap.size,0,none⟩ = some (.string N) ∧ W.cell? ⟨wr.heap.size,1,none⟩ = some (.slice po pk pc) ∧ W.cell? ⟨wr.heap.size,2,none⟩ = some (.int .i64 (z : Int)) ∧ W.cell? ⟨w.heap.size,0,none⟩ = some (.slice no n nc) ∧ Bel V2 W) → Calls Tryz.prog 46 #[.slice po pk pc,.string ⟨#[44,32]⟩] W fun e w' => e = .returned (.string J) ∧ w'.cell? ⟨wr.heap.size,0,none⟩ = some (.string N) ∧ w'.cell? ⟨wr.heap.size,1,none⟩ = some (.slice po pk pc) ∧ w'.cell? ⟨wr.heap.size,2,none⟩ = some (.int .i64 (z : Int)) ∧ w'.cell? ⟨w.heap.size,0,none⟩ = some (.slice no n nc) ∧ Bel V2 w' from fun W hS => (HJ0.out W (Bel.trans HBw2.out hS.2.2.2.2)).mono fun e w' k => by
    obtain ⟨e1,g⟩ := k
    exact ⟨e1,g.cell' hS.1,g.cell' hS.2.1,g.cell' hS.2.2.1,g.cell' hS.2.2.2.1,Bel.trans hS.2.2.2.2 g⟩)
   have HK := Lib.hid (show ∀ W,(W.cell? ⟨wr.heap.size,0,none⟩ = some (.string N) ∧ W.cell? ⟨wr.heap.size,1,none⟩ = some (.slice po pk pc) ∧ W.cell? ⟨wr.heap.size,2,none⟩ = some (.int .i64 (z : Int)) ∧ W.cell? ⟨w.heap.size,0,none⟩ = some (.slice no n nc) ∧ Bel V2 W) → Calls Tryz.prog 47 #[.slice no n nc,.int .i64 (z : Int),.string ⟨#[]⟩] W fun e w' => e = .returned (.string K) ∧ w'.cell? ⟨wr.heap.size,0,none⟩ = some (.string N) ∧ w'.cell? ⟨wr.heap.size,1,none⟩ = some (.slice po pk pc) ∧ w'.cell? ⟨wr.heap.size,2,none⟩ = some (.int .i64 (z : Int)) ∧ w'.cell? ⟨w.heap.size,0,none⟩ = some (.slice no n nc) ∧ Bel V2 w' from fun W hS => (HK0.out W (Bel.trans HBw2.out hS.2.2.2.2)).mono fun e w' k => by
    obtain ⟨e1,g⟩ := k
    exact ⟨e1,g.cell' hS.1,g.cell' hS.2.1,g.cell' hS.2.2.1,g.cell' hS.2.2.2.1,Bel.trans hS.2.2.2.2 g⟩)
   have f1 : (9223372036854775807 < 5 + N.size) = False := eq_false (by omega)
   have f2 : (9223372036854775807 < 5 + N.size + 1) = False := eq_false (by omega)
   have f3 : (9223372036854775807 < 5 + N.size + 1 + J.size) = False := eq_false (by omega)
   have f4 : (9223372036854775807 < 5 + N.size + 1 + J.size + 2) = False := eq_false (by omega)
   have f5 : (9223372036854775807 < 5 + N.size + 1 + J.size + 2 + K.size) = False := eq_false (by omega)
   have f6 : (9223372036854775807 < 5 + N.size + 1 + J.size + 2 + K.size + 1) = False := eq_false (by omega)
   have f7 : (9223372036854775807 < T.size + (5 + N.size + 1 + J.size + 2 + K.size + 1)) = False := eq_false (by omega)
   clear hql hcs hz hat hqF hze hze2 hv hcc hgf hp8 hsb hsp hpk hpc hnl hpl hbl hqsz htk HJ0 HK0 hN hJ hK B2
   go_wp2_with fail
   go_region_held3 (fun W => W.cell? ⟨wr.heap.size,0,none⟩ = some (.string N) ∧ W.cell? ⟨wr.heap.size,1,none⟩ = some (.slice po pk pc) ∧ W.cell? ⟨wr.heap.size,2,none⟩ = some (.int .i64 (z : Int)) ∧ W.cell? ⟨w.heap.size,0,none⟩ = some (.slice no n nc) ∧ Bel V2 W) (first | exact ⟨a1,a2,a3,a4,a5⟩ | exact ⟨y0,y1,y2,z0,Below.drew (Bel.refl _)⟩) (first | (go_at_call 46; (with_reducible refine (HJ.out _ ?_).mono ?_); (first | assumption | exact ⟨y0,y1,y2,z0,Below.drew (Bel.refl _)⟩); rintro e w' ⟨rfl,a1,a2,a3,a4,a5⟩) | (go_at_call 47; (with_reducible refine (HK.out _ ?_).mono ?_); (first | assumption | exact ⟨y0,y1,y2,z0,Below.drew (Bel.refl _)⟩); rintro e w' ⟨rfl,a1,a2,a3,a4,a5⟩))
   all_goals
    have A5 := Lib.hid a5
    go_wp2_with fail
    go_round
    case rel => exact ⟨q + 1,_,rfl,by go_num,by omega,hT2,Lib.hid (Bel.trans HB2.out A5.out)⟩
    case measure => simp [intOf]; omega
  ·obtain rfl : q = k := by omega
   have ht : T.toList = txt (itW fs) := by
    have := hTl.out
    rw [List.take_of_length_le (by rw [Hfs.out]; omega)] at this
    exact this
   have HT := Lib.hid (Lex.tokens_any T wr)
   rw [ht] at HT
   have hE : prE fs = (Lex.tokens (txt (itW fs))).e := rfl
   obtain ⟨R,hR⟩ : ∃ R,Lex.tokens (txt (itW fs)) = R := ⟨_,rfl⟩
   rw [hR] at HT hE
   have hRE2 := HRE.out
   rw [hE] at hRE2
   have hRT2 := HRT.out
   unfold prT at hRT2
   rw [hE] at hRT2
   by_cases h0 : R.e = 0
   ·rw [if_pos h0] at hRT2
    rw [h0] at hRE2
    have hTT := Lib.hid (show T = ⟨RT.toArray⟩ by rw [← hRT2,← ht]; exact (Lex.str_back T).symm)
    subst hRE2
    clear hRT2 ht hE hR hTs
    go_wp2_with fail
    refine HT.out.mono ?_
    rintro e w2 ⟨⟨o2,n2,c2,rfl,hA2,-,-⟩,g⟩
    have G := Lib.hid (Bel.trans HBV.out (Bel.trans hB.out g))
    rw [h0]
    clear g hA2 h0 HT
    go_wp2_with fail
    go_ret2
    exact ⟨by rw [← hTT.out]; rfl,G.out⟩
   ·rw [if_neg h0] at hRT2
    subst hRT2 hRE2
    have hne : (R.e != 0) = true := by simpa using h0
    clear ht hE hR hTs
    go_wp2_with fail
    refine HT.out.mono ?_
    rintro e w2 ⟨⟨o2,n2,c2,rfl,hA2,-,-⟩,g⟩
    have G := Lib.hid (Bel.trans HBV.out (Bel.trans hB.out g))
    clear g hA2 HT
    go_wp2_with fail
    go_ret2
    exact ⟨rfl,G.out⟩
end Syn
end Go.Proofs.YtcapkeaedpabjaaGreatDoor

/-
 Layer 8: lex.Tokens once more: what it returns is a row of one's own. Made out of layer 7's text.
-/
namespace Go.Proofs.YtcapkeaedpabjaaGreatDoor
open Go.RowKit Go.ChangeShapes Go.WideShapes
namespace Lex

def TResO (B : Nat) (w : World) (e : Ending) (R : TR) : Prop := ∃ o n c,e = .returned (.tuple #[.slice o n c,.int .i64 (R.p : Int),.int .i64 R.e]) ∧ w.ownsRow B 54 4 (.slice o n c) n (encT R.l)
theorem TResO.bad (B : Nat) (w : World) (p : Nat) (E pl : Int) (h : pl = (p : Int)) : TResO B w (.returned (.tuple #[.slice none 0 0,.int .i64 pl,.int .i64 E])) ⟨[],p,E⟩ := ⟨none,0,0,by rw [h],World.ownsRow_nil _ _ _ _⟩
theorem tokens_own (s : ByteArray) (w : World) :
  Calls Tryz.prog 32 #[.string s] w fun e w' => TResO w.heap.size w' e (tokens s.toList) ∧ Bel w w' := by
 have hT : tokens s.toList = if 4000 < s.size then ⟨[],0,3⟩ else toks 0 (skipN false s.toList) (s.toList.drop (skipN false s.toList)) := by unfold tokens; rw [toL_len]
 obtain ⟨R0,hR0⟩ : ∃ R0,tokens s.toList = R0 := ⟨_,rfl⟩
 rw [hR0] at hT ⊢
 by_cases h4 : 4000 < s.size
 ·rw [if_pos h4] at hT
  subst hT
  clear hR0
  go_enter Tryz.func32,Tryz.ntmps32
  go_wp2
  go_ret3
  exact ⟨TResO.bad _ _ 0 3 _ rfl,Bel.refl _⟩
 rw [if_neg h4] at hT
 have hm : s.size ≤ maxLen := by unfold maxLen; omega
 have HI := Lib.hid (fun w => ignored_any s hm w)
 have hsk := skip_le false s.toList
 rw [toL_len] at hsk
 generalize skipN false s.toList = k0 at *
 have hN : Hid (addT [] (toks 0 k0 (s.toList.drop k0)) = R0) := Lib.hid (by rw [addT_nil]; exact hT.symm)
 clear hT hR0
 go_enter Tryz.func32,Tryz.ntmps32
 go_wp2_with fail
 refine (HI.out _).mono ?_
 rintro e w1 ⟨rfl,g1⟩
 have G1 := Lib.hid g1
 clear g1 HI
 go_wp2
 go_loopw [5,6] (fun p i wr => ∃ (k m c : Nat) (o : Option Addr) (L : List Tk),i = .int .i64 (k : Int) ∧ p = .slice o m c ∧ k ≤ s.size ∧ m ≤ 1000 ∧ Hid (addT L (toks m k (s.toList.drop k)) = R0) ∧ Hid (wr.ownsRow w.heap.size 54 4 (.slice o m c) m (encT L)) ∧ Hid (Bel w wr)) (fun _ i _ => s.size - (intOf i).toNat)
 case atStart => exact ⟨k0,0,0,none,[],rfl,rfl,hsk,Nat.zero_le _,hN,Lib.hid (World.ownsRow_nil _ _ _ _),G1⟩
 case round =>
  obtain ⟨k,m,cp,o,L,rfl,rfl,hk,hm1,hr,hO,hB⟩ := hrel
  clear hN G1
  by_cases hq : k < s.size
  ·have hne : s.toList.drop k ≠ [] := by rw [drop_get s k hq]; simp
   have hr0 := hr.out
   clear hr
   by_cases hm2 : m = 1000
   ·subst hm2
    rw [toks_full _ hne,addT_bad _ _ _ (by decide)] at hr0
    subst hr0
    clear hne
    go_wp2
    go_ret3
    exact ⟨TResO.bad _ _ k 3 _ rfl,hB.out⟩
   have hmb : ((m : Int) == 1000) = false := by simp; omega
   have sl := fun w => cutE s k (k : Int) rfl (by omega) w
   obtain ⟨T,hT⟩ : ∃ T : ByteArray,⟨(s.toList.drop k).toArray⟩ = T := ⟨_,rfl⟩
   rw [hT] at sl
   have hTl : T.toList = s.toList.drop k := by rw [← hT]; exact tl _
   have hTs : T.size = s.size - k := by rw [← toL_len,hTl,List.length_drop,toL_len]
   have HF := Lib.hid (fun w => first_any T (by omega) (by omega) w)
   rw [hTl] at HF
   have hn := rd_n (l := s.toList.drop k)
   rw [List.length_drop,toL_len] at hn
   by_cases he : (rdT (s.toList.drop k)).e = 0
   ·rw [toks_step hne hm2 he,addT_addT] at hr0
    have hnx := nxt_le he
    rw [List.length_drop,toL_len] at hnx
    have hdef : nxt (s.toList.drop k) = (rdT (s.toList.drop k)).n + skipN false (s.toList.drop (k + (rdT (s.toList.drop k)).n)) := by unfold nxt; rw [List.drop_drop]
    rw [List.drop_drop] at hr0
    obtain ⟨R,hR⟩ : ∃ R,rdT (s.toList.drop k) = R := ⟨_,rfl⟩
    rw [hR] at HF hn he hr0 hdef
    have sl2 := fun w => cutE s (k + R.n) ((k : Int) + (R.n : Int)) (by omega) (by omega) w
    obtain ⟨U,hU⟩ : ∃ U : ByteArray,⟨(s.toList.drop (k + R.n)).toArray⟩ = U := ⟨_,rfl⟩
    rw [hU] at sl2
    have hUl : U.toList = s.toList.drop (k + R.n) := by rw [← hU]; exact tl _
    have hUs : U.size = s.size - (k + R.n) := by rw [← toL_len,hUl,List.length_drop,toL_len]
    have HG := Lib.hid (fun w => ignored_any U (by unfold maxLen; omega) w)
    rw [hUl] at HG
    generalize skipN false (s.toList.drop (k + R.n)) = z at *
    generalize nxt (s.toList.drop k) = nx at *
    obtain ⟨rk,rs,ri,rn,re⟩ := R
    dsimp only at he hr0 hn hdef sl2 hUs hnx
    unfold rdV at HF
    dsimp only at HF
    obtain ⟨S,hS⟩ : ∃ S : ByteArray,⟨rs.toArray⟩ = S := ⟨_,rfl⟩
    have hSl : rs = S.toList := by rw [← hS]; exact (tl _).symm
    rw [hS] at HF
    rw [hSl] at hr0
    subst he hdef
    have hr2 := Lib.hid hr0
    clear hr0 hne hT hTl hTs hR hU hUl hUs hS hSl
    go_wp2_with fail
    refine (HF.out _).mono ?_
    rintro e w2 ⟨rfl,g2⟩
    have G2 := Lib.hid (Bel.trans hB.out g2)
    have hO1 := Lib.hid (own_on hO.out g2)
    clear g2 hB hO HF
    have A1 := Lib.hid (Bel.alloc (Bel.alloc (Bel.refl w2) (.cells #[.int .i64 rk,.string S,.int .i64 ri,.int .i64 (k : Int)] 54)) (.cells #[.int .i64 rk,.string S,.int .i64 ri,.int .i64 (k : Int)] 54))
    have hO2 := Lib.hid (own_on hO1.out A1.out)
    have hB2 := Lib.hid (Bel.trans G2.out A1.out)
    have hc1 := TAt.new (w2.alloc (.cells #[.int .i64 rk,.string S,.int .i64 ri,.int .i64 (k : Int)] 54)) rk ri (k : Int) S 54
    rw [size_alloc2] at hc1
    have hc2 := Lib.hid hc1
    clear hc1
    clear A1 hO1 G2
    go_wp2_with (at_builtin; refine list_tok ⟨rk,S.toList,ri,(k : Int)⟩ _ _ rfl rfl rfl rfl rfl hB2.out hO2.out hc2.out (by omega) ?_; intro o3 c3 w3 g3 h3; refine Hid.out ?_)
    refine Lib.hid ?_
    clear hO2 hB2 hc2
    go_wp2_with fail
    refine (HG.out _).mono ?_
    rintro e w4 ⟨rfl,g4⟩
    have G4 := Lib.hid (Bel.trans g3.out g4)
    have hO4 := Lib.hid (own_on h3.out g4)
    clear g4 g3 h3 HG
    go_wp2_with fail
    go_roundw
    case rel => exact ⟨k + (rn + z),m + 1,c3,o3,L ++ [⟨rk,S.toList,ri,(k : Int)⟩],by go_num,rfl,by omega,by omega,hr2,hO4,G4⟩
    case measure => simp [intOf]; omega
   ·rw [toks_bad hne hm2 he,addT_bad _ _ _ he] at hr0
    obtain ⟨R,hR⟩ : ∃ R,rdT (s.toList.drop k) = R := ⟨_,rfl⟩
    rw [hR] at HF hn he hr0
    obtain ⟨rk,rs,ri,rn,re⟩ := R
    dsimp only at he hr0 hn
    have he2 : (re != 0) = true := by simpa using he
    unfold rdV at HF
    dsimp only at HF
    subst hr0
    clear hne hT hTl hTs hR he
    go_wp2_with fail
    refine (HF.out _).mono ?_
    rintro e w2 ⟨rfl,g2⟩
    have G2 := Lib.hid (Bel.trans hB.out g2)
    clear g2 hB hO HF
    go_wp2
    go_ret3
    exact ⟨TResO.bad _ _ (k + rn) re _ (by omega),Bel.alloc G2.out _⟩
  ·have hr0 := hr.out
   rw [drop_end s (by omega),toks_nil] at hr0
   have hr1 : (⟨L ++ [],0,0⟩ : TR) = R0 := hr0
   rw [List.append_nil] at hr1
   subst hr1
   clear hr hr0
   go_wp2
   go_ret3
   exact ⟨⟨_,_,_,rfl,hO.out⟩,hB.out⟩
end Lex
end Go.Proofs.YtcapkeaedpabjaaGreatDoor

/-
 Layer 8: the closure that Parse defers, as the program has it.
-/
namespace Go.Proofs.YtcapkeaedpabjaaGreatDoor
open Go.RowKit Go.ChangeShapes Go.WideShapes
namespace Syn

def caught (b2 b3 b4 : Nat) (a : Int) (w : World) : World := (((w.setCell ⟨b2,0,none⟩ (.slice none 0 0)).setCell ⟨b2,1,none⟩ (.slice none 0 0)).setCell ⟨b3,0,none⟩ (.int .i64 a)).setCell ⟨b4,0,none⟩ (.int .i64 1)
theorem catch_pan (g b2 b3 b4 tb q m d : Nat) (a : Int) (older : List PanicEntry) (w : World) (h0 : w.cell? ⟨g,0,none⟩ = some (.slice (some ⟨tb,q,none⟩) (m + 1) (d + 1))) (h3 : w.cell? ⟨tb,q + 3,none⟩ = some (.int .i64 a))
  (p0 p1 : Value) (c0 : w.cell? ⟨b2,0,none⟩ = some p0) (c1 : w.cell? ⟨b2,1,none⟩ = some p1) (x3 x4 : Int) (c3 : w.cell? ⟨b3,0,none⟩ = some (.int .i64 x3)) (c4 : w.cell? ⟨b4,0,none⟩ = some (.int .i64 x4))
  (f2 : ∀ j,w.frozen? ⟨b2,j,none⟩ = false) (f3 : w.frozen? ⟨b3,0,none⟩ = false) (f4 : w.frozen? ⟨b4,0,none⟩ = false) (n23 : b2 ≠ b3) (n24 : b2 ≠ b4) (n34 : b3 ≠ b4) :
  CallsD Tryz.prog 33 #[.pointer (some ⟨g,0,none⟩),.pointer (some ⟨b2,0,none⟩),.pointer (some ⟨b3,0,none⟩),.pointer (some ⟨b4,0,none⟩)] (.panicking ({ v := errV,recovered := false } :: older)) w fun e u' w' =>
   e = .returned (.tuple #[]) ∧ u' = .panicking ({ v := errV,recovered := true } :: older) ∧ w' = caught b2 b3 b4 a w := by
 refine callsD_of_wpS Tryz.func33 rfl fun c₀ cs hu => ?_
 apply wpS_seq
 apply wpS_region
 simp [wpOpsS,go_sem,recoverD,hu,Tryz.ntmps33,Exit.thenS]
 refine wpS_cond (t := true) (by rfl) ?_
 simp only [if_true]
 refine wpS_of_wp ?_
 cases c₀
 go_wp2
 simp [bodyPostS,results,Tryz.results33,caught]
theorem catch_idl (g b2 b3 b4 : Nat) (w : World) :
  CallsD Tryz.prog 33 #[.pointer (some ⟨g,0,none⟩),.pointer (some ⟨b2,0,none⟩),.pointer (some ⟨b3,0,none⟩),.pointer (some ⟨b4,0,none⟩)] .returning w fun e u' w' => e = .returned (.tuple #[]) ∧ u' = .returning ∧ w' = w := by
 refine callsD_of_wpS Tryz.func33 rfl fun c₀ cs hu => ?_
 apply wpS_seq
 apply wpS_region
 simp [wpOpsS,go_sem,recoverD,hu,Tryz.ntmps33,Exit.thenS]
 refine wpS_cond (t := false) (by rfl) ?_
 simp only [Bool.false_eq_true,if_false]
 refine wpS_of_wp (wp_skip ?_)
 cases c₀
 simp_all [bodyPostS,results,Tryz.results33]
end Syn
end Go.Proofs.YtcapkeaedpabjaaGreatDoor

/-
 Layer 8: a token behind a row of one's own; the reader as Parse makes it.
-/
namespace Go.Proofs.YtcapkeaedpabjaaGreatDoor
open Go.RowKit Go.ChangeShapes Go.WideShapes
namespace Lex
theorem toks_facts : ∀ (n m p : Nat) (l : Txt),l.length ≤ n → m ≤ 1000 → (toks m p l).e = 0 → m + (toks m p l).l.length ≤ 1000 ∧ ∀ t ∈ (toks m p l).l,okT t = true ∧ (p : Int) ≤ t.a ∧ t.a < ((p + l.length : Nat) : Int) := by
 intro n
 induction n with
 | zero =>
  intro m p l h1 hm h2
  obtain rfl := List.length_eq_zero_iff.1 (Nat.le_zero.1 h1)
  rw [toks_nil]
  exact ⟨hm,fun t ht => by cases ht⟩
 | succ n ih =>
  intro m p l h1 hm h2
  by_cases hl : l = []
  ·subst hl
   rw [toks_nil]
   exact ⟨hm,fun t ht => by cases ht⟩
  obtain ⟨hm2,he⟩ := toks_cases h2 hl
  have hn := nxt_le he
  have hpos : 0 < l.length := List.length_pos_iff.2 hl
  rw [toks_step hl hm2 he] at h2
  obtain ⟨g1,g2⟩ := addT_e h2
  obtain ⟨i1,i2⟩ := ih (m + 1) (p + nxt l) (l.drop (nxt l)) (by rw [List.length_drop]; omega) (by omega) g1
  rw [toks_step hl hm2 he,g2]
  refine ⟨by rw [List.length_append,List.length_singleton]; omega,fun t ht => ?_⟩
  rcases List.mem_append.1 ht with q | q
  ·rw [List.mem_singleton.1 q]
   obtain ⟨r,hk,_⟩ := rd_back l he (p : Int)
   exact ⟨hk,Int.le_refl _,by dsimp only; omega⟩
  ·obtain ⟨j1,j2,j3⟩ := i2 t q
   rw [List.length_drop] at j3
   exact ⟨j1,by omega,by omega⟩
theorem tokens_facts {s : Txt} (h : (tokens s).e = 0) : (tokens s).l.length ≤ 1000 ∧ ∀ t ∈ (tokens s).l,okT t = true ∧ 0 ≤ t.a ∧ t.a < (s.length : Int) := by
 unfold tokens at h ⊢
 by_cases h4 : 4000 < s.length
 ·rw [if_pos h4] at h
  cases h
 ·rw [if_neg h4] at h ⊢
  obtain ⟨h1,h2⟩ := toks_facts _ 0 (skipN false s) _ (Nat.le_refl _) (by omega) h
  have hs := skip_le false s
  refine ⟨by omega,fun t ht => ?_⟩
  obtain ⟨j1,j2,j3⟩ := h2 t ht
  rw [List.length_drop] at j3
  exact ⟨j1,by omega,by omega⟩
theorem ok_kind {t : Tk} (h : okT t = true) : ¬ t.k = 0 := fun e => by
 unfold okT at h
 rw [e] at h
 simp at h
theorem list_tokG {Y : World} {base m c g : Nat} {p : Option Addr} {l : List Tk} {ops : Array Oper} {rest : List Oper} {o : Oper} {a : Act} {Q : Exit → Act → World → Prop} (t : Tk) (s y : Operand)
  (ho : o.op = .call { callee := .builtin .append,args := #[s,y],argTypes := #[49,49] }) (hgd : o.guard = none) (_hty : o.type = 49) (hs : a.eval s = .slice p m c) (hx : a.eval y = .slice (some ⟨g,0,none⟩) 1 1)
  (hb : base ≤ Y.heap.size) (hown : Y.ownsRow base 54 4 (.slice p m c) m (encT l)) (hc : TAt Y g 0 t) (hm : m ≤ 100000)
  (h : ∀ o3 c3 w',Hid (Syn.Mod (fun k => Syn.Blk p k) Y w') → Hid (w'.ownsRow base 54 4 (.slice o3 (m + 1) c3) (m + 1) (encT (l ++ [t]))) → wpList Tryz.prog ops Q rest (a.put o.dst (.slice o3 (m + 1) c3)) w') : wpList Tryz.prog ops Q (o :: rest) a Y := by
 obtain ⟨i0,hi,hz0,hz1,hz2⟩ := info_parts info_tok
 refine wpList_append_own_at _ hgd s y 49 ho base 54 i0 _ 4 40 Tryz.underlying49 hi hz0 hz1 hz2 rfl (by decide) _ m _ hs hown ⟨g,0,none⟩ 1 1 (encT [t]) hx rfl (tok_news hc) tok_one (by unfold maxLen; omega) (by omega) hb ?_
 intro v' w' ho' hg _ hat
 obtain ⟨p2,c3,rfl,_⟩ := own_shape ho'
 exact h p2 c3 w' (Lib.hid (Syn.Mod.grown hg (fun i hi => (Syn.blk_of hown).2 hi))) (Lib.hid (by rw [encT_app]; exact ho'))
end Lex
namespace Syn
def pairs (l : List Lex.Tk) : List (Ck × Int) := l.map fun t => (Lex.core t,t.a)
theorem pairs_fst (l : List Lex.Tk) : (pairs l).map Prod.fst = l.map Lex.core := by unfold pairs; rw [List.map_map]; rfl
def cxOf (g base tb cap : Nat) (l : List Lex.Tk) (z : Int) : Cx := ⟨g,base,tb,cap,pairs l,z⟩
theorem cx_at (g base tb cap : Nat) (l : List Lex.Tk) (z : Int) (p : Nat) : (cxOf g base tb cap l z).at p = (l.map Lex.core).drop p := by
 unfold Cx.at cxOf
 rw [List.map_drop,pairs_fst]
def offOf (l : List Lex.Tk) (z : Int) (r : List Ck) : Int := match l[l.length - r.length]? with | some t => t.a | none => z
theorem cx_tok (g base tb cap : Nat) (l : List Lex.Tk) (z : Int) (p : Nat) (hp : p ≤ l.length) : ((cxOf g base tb cap l z).tok p).2 = offOf l z ((cxOf g base tb cap l z).at p) := by
 rw [cx_at]
 unfold Cx.tok cxOf offOf pairs
 rw [List.length_drop,List.length_map,show l.length - (l.length - p) = p by omega,List.getElem?_map]
 cases l[p]? <;> rfl
def ParseOk (l : List Lex.Tk) (z : Int) (X : RR (List Fu)) (w' : World) (e : Ending) : Prop := match X with
 | .bad r => e = .returned (.tuple #[.agg #[.slice none 0 0,.slice none 0 0],.int .i64 (offOf l z r),.int .i64 1])
 | .ok fs _ => if chkE (flatF 0 fs) (funcF 0 fs) = 0 then ∃ no nn nc fo m fc,e = .returned (.tuple #[.agg #[.slice no nn nc,.slice fo m fc],.int .i64 0,.int .i64 0]) ∧ nn ≤ nc ∧ m ≤ fc ∧ NArg w' no nn (flatF 0 fs) ∧ FArg w' fo m (funcF 0 fs) ∧ nn ≤ 1000 ∧ m ≤ 1000
  else e = .returned (.tuple #[.agg #[.slice none 0 0,.slice none 0 0],.int .i64 0,.int .i64 (chkE (flatF 0 fs) (funcF 0 fs))])
theorem sameC {w : World} {p : Addr} {u : Value} (v : Value) (h : w.cell? p = some u) : (w.setCell p v).cell? p = some v := World.cell?_setCell_same w p v h
theorem otherC {w : World} {p q : Addr} {u : Value} (v : Value) (h : w.cell? q = some u) (hne : p ≠ q) : (w.setCell p v).cell? q = some u := (World.cell?_setCell_other w p q v hne).trans h
theorem adN {a b i j : Nat} (h : ¬ a = b) : (⟨a,i,none⟩ : Addr) ≠ ⟨b,j,none⟩ := fun e => h (congrArg Addr.block e)
theorem adO {a i j : Nat} (h : ¬ i = j) : (⟨a,i,none⟩ : Addr) ≠ ⟨a,j,none⟩ := fun e => h (congrArg Addr.off e)
theorem cells6 {w1 : World} {b2 b3 b4 : Nat} {A0 B0 X0 Y0 : Value} (c20 : w1.cell? ⟨b2,0,none⟩ = some A0) (c21 : w1.cell? ⟨b2,1,none⟩ = some B0) (c3 : w1.cell? ⟨b3,0,none⟩ = some X0) (c4 : w1.cell? ⟨b4,0,none⟩ = some Y0) (n1 : ¬ b2 = b3) (n2 : ¬ b2 = b4) (n3 : ¬ b3 = b4) (A B X Y : Value) :
  ((((w1.setCell ⟨b2,0,none⟩ A).setCell ⟨b2,1,none⟩ B).setCell ⟨b3,0,none⟩ X).setCell ⟨b4,0,none⟩ Y).cell? ⟨b2,0,none⟩ = some A ∧ ((((w1.setCell ⟨b2,0,none⟩ A).setCell ⟨b2,1,none⟩ B).setCell ⟨b3,0,none⟩ X).setCell ⟨b4,0,none⟩ Y).cell? ⟨b2,1,none⟩ = some B ∧
   ((((w1.setCell ⟨b2,0,none⟩ A).setCell ⟨b2,1,none⟩ B).setCell ⟨b3,0,none⟩ X).setCell ⟨b4,0,none⟩ Y).cell? ⟨b3,0,none⟩ = some X ∧ ((((w1.setCell ⟨b2,0,none⟩ A).setCell ⟨b2,1,none⟩ B).setCell ⟨b3,0,none⟩ X).setCell ⟨b4,0,none⟩ Y).cell? ⟨b4,0,none⟩ = some Y :=
 ⟨otherC _ (otherC _ (otherC _ (sameC _ c20) (adO (by decide))) (adN (fun e => n1 e.symm))) (adN (fun e => n2 e.symm)),otherC _ (otherC _ (sameC _ (otherC _ c21 (adO (by decide)))) (adN (fun e => n1 e.symm))) (adN (fun e => n2 e.symm)),
  otherC _ (sameC _ (otherC _ (otherC _ c3 (adN n1)) (adN n1))) (adN (fun e => n3 e.symm)),sameC _ (otherC _ (otherC _ (otherC _ c4 (adN n2)) (adN n2)) (adN n3))⟩
theorem parse_res (tmps : Array Value) (b2 b3 b4 : Nat) (o o' : Option Addr) (n c n' c' : Nat) (x y : Int) (W : World) (t2 : tmps[2]?.getD undef = .pointer (some ⟨b2,0,none⟩)) (t3 : tmps[3]?.getD undef = .pointer (some ⟨b3,0,none⟩)) (t4 : tmps[4]?.getD undef = .pointer (some ⟨b4,0,none⟩))
  (c0 : W.cell? ⟨b2,0,none⟩ = some (.slice o n c)) (c1 : W.cell? ⟨b2,1,none⟩ = some (.slice o' n' c')) (c3 : W.cell? ⟨b3,0,none⟩ = some (.int .i64 x)) (c4 : W.cell? ⟨b4,0,none⟩ = some (.int .i64 y)) :
  (results Tryz.f8 tmps).run Tryz.prog W = .ok (.tuple #[.agg #[.slice o n c,.slice o' n' c'],.int .i64 x,.int .i64 y]) W := by
 simp [results,Tryz.results8,t2,t3,t4,go_sem,c0,c1,c3,c4]

def GPost2 (Z : Nat → Prop) (x : Cx) (X : RR (List Fu)) (w : World) (e : Ending) (w' : World) : Prop :=
 match X with
 | .ok fs _ => ∃ no nn nc fo m fc,e = .returned (.agg #[.slice no nn nc,.slice fo m fc]) ∧ nn ≤ nc ∧ m ≤ fc ∧ (∀ (F : Nat → Prop) (w2 : World),Mod F w' w2 → (∀ b,F b → Z b) → NArg w2 no nn (flatF 0 fs) ∧ FArg w2 fo m (funcF 0 fs)) ∧ Mod (fun k => k = x.g) w w' ∧ nn ≤ 1000 ∧ m ≤ 1000
 | .bad r => Stops x none w e w' r
theorem program_any2 {Z : Nat → Prop} {x : Cx} (hpos : ∀ t ∈ x.T,¬ t.1.1 = 0) (w : World) (hZ : ∀ b,Z b → b < w.heap.size) (h : RS x (fun b => b = x.g ∨ Z b) 0 none 0 0 [] w) (f : Nat) (hf : 20 * x.T.length + 1 ≤ f) :
  Calls Tryz.prog 34 #[.pointer (some ⟨x.g,0,none⟩)] w (GPost2 Z x (rdG f [] (x.at 0)) w) := by
 obtain ⟨W0,hW0⟩ : ∃ W0,w.alloc (.cells #[.slice none 0 0,.slice none 0 0] 25) = W0 := ⟨_,rfl⟩
 have B : Bel w W0 := by rw [← hW0]; exact Bel.alloc (Bel.refl w) _
 have v0 : W0.cell? ⟨w.heap.size,0,none⟩ = some (.slice none 0 0) := by rw [← hW0]; exact World.cell?_alloc_new ..
 have v1 : W0.cell? ⟨w.heap.size,1,none⟩ = some (.slice none 0 0) := by rw [← hW0]; exact World.cell?_alloc_new ..
 have vf : ∀ j,W0.frozen? ⟨w.heap.size,j,none⟩ = false := fun j => by rw [← hW0]; exact World.frozen?_alloc_new _ _ _ _
 have hgl : x.g < w.heap.size := cell_lt' h.nod
 have hlt := h.lt
 have h0 : RS x (fun b => b = x.g ∨ (b = w.heap.size ∨ Z b) ∨ False ∨ Blk none b) 0 none 0 0 [] W0 := h.wide B (fun b hb => by
   rcases hb with q | (q | q) | q | ⟨_,q⟩
   ·exact Or.inl (Or.inl q)
   ·exact Or.inr (by omega)
   ·exact Or.inl (Or.inr q)
   ·exact q.elim
   ·cases q) (fun b hb => by
   rcases hb with q | (q | q) | q | ⟨_,q⟩
   ·rw [q]; exact Nat.lt_of_lt_of_le hgl B.size
   ·rw [q]; exact cell_lt' v0
   ·exact Nat.lt_of_lt_of_le (hZ b q) B.size
   ·exact q.elim
   ·cases q) (Or.inl rfl)
 have HZ := Lib.hid hZ
 obtain ⟨X,hX⟩ : ∃ X,rdG f [] (x.at 0) = X := ⟨_,rfl⟩
 have HX := Lib.hid hX
 rw [hX]
 have H0 := Lib.hid h0
 have Hw0 := Lib.hid hW0
 have HB0 := Lib.hid B
 have Hpos := Lib.hid hpos
 have Hv := Lib.hid (show W0.cell? ⟨w.heap.size,0,none⟩ = some (.slice none 0 0) ∧ W0.cell? ⟨w.heap.size,1,none⟩ = some (.slice none 0 0) ∧ ∀ j,W0.frozen? ⟨w.heap.size,j,none⟩ = false from ⟨v0,v1,vf⟩)
 have Hlt := Lib.hid h.lt
 clear h hX h0 B hpos hZ v0 v1 vf
 go_enter Tryz.func34,Tryz.ntmps34
 go_wp2_with fail
 clear hW0
 go_loopw [3] (fun fv wr => ∃ (fs : List Fu) (U : Nat → Prop) (p : Nat) (o : Option Addr) (c : Nat) (fo : Option Addr) (m fc f' : Nat),fv = .slice fo m fc ∧ Hid (RS x (fun b => b = x.g ∨ (b = w.heap.size ∨ Z b) ∨ U b ∨ Blk fo b) p o (sizeF fs) c (flatF 0 fs) wr) ∧ Hid (FOwn U wr W0.heap.size fo m fc (funcF 0 fs)) ∧ Hid (RTo x.g none W0 o wr) ∧ Hid (∀ b,U b → W0.heap.size ≤ b) ∧ Hid (rdG f' fs (x.at p) = X) ∧ 20 * (x.T.length - p) + 1 ≤ f' ∧ Hid (m = fs.length) ∧ m ≤ p) (fun _ wr => left? x wr)
 case atStart => exact ⟨[],fun _ => False,0,none,0,none,0,0,f,rfl,H0,Lib.hid (FOwn.nil _ _ _),Lib.hid (RTo.refl _ _ _),Lib.hid (fun b q => q.elim),HX,by omega,Lib.hid rfl,Nat.le_refl _⟩
 case round =>
  obtain ⟨fs,U,p,o,c,fo,m,fc,f',rfl,HR,HF,HT,HU,HM,hf1,hm,hmp⟩ := hrel
  rename World => wr
  have hpos := HR.out.ts.pos
  have hlen := HR.out.ts.len
  obtain ⟨f',rfl⟩ : ∃ g,f' = g + 1 := ⟨f' - 1,by omega⟩
  rw [left_is HR.out.ts]
  clear H0
  cases hb : isT [102,117,110,99] (hd (x.at p)) with
  | true =>
   have HA := Lib.hid (accept_yes [102,117,110,99] wr HR.out hb)
   have hp := isT_lt hb
   have Hb := Lib.hid hb
   clear hb
   go_wp2_with fail
   refine HA.out.mono ?_
   rintro e w1 ⟨rfl,r1,t1⟩
   have HFn := Lib.hid (function_any w1 r1 f' (by omega))
   have T1 := Lib.hid t1
   clear r1 t1 HA
   go_wp2_with fail
   refine HFn.out.mono ?_
   intro e w2 h2
   clear HFn
   cases hg : rdF f' (x.at (p + 1)) with
   | bad r =>
    rw [hg] at h2
    have h3 := Stops.from (T1.out) h2
    have h4 := Stops.from (HT.out) h3
    have h5 := Stops.from (RTo.of_bel (g := x.g) (o := none) HB0.out) h4
    obtain ⟨rfl,H2⟩ := h5
    have H2c := Lib.hid H2
    have hz : Hid (X = .bad r) := Lib.hid (by rw [← HM.out,rdG_bad Hb.out (by rw [tail_at]; exact hg)])
    clear h2 h3 h4 H2
    go_wp2_with fail
    rw [hz.out]
    exact ⟨rfl,rfl,H2c.out⟩
   | ok u r =>
    rw [hg] at h2
    obtain ⟨po,k,pc,rfl,hkc,hK,hPn,hPl,p2,o2,c2,r2,t2,rfl,hp2,hs2⟩ := h2
    have t12 := T1.out.trans t2
    have hgo : ∀ b,W0.heap.size ≤ b → (U b ∨ Blk fo b) → ¬ (b = x.g ∨ Blk o b) := fun b hb1 hb q => by
     rcases q with q | q
     ·have := HB0.out.size; omega
     ·exact (HR.out.sl b (by rcases hb with z | z; exact Or.inr (Or.inr (Or.inl z)); exact Or.inr (Or.inr (Or.inr z)))).2 q
    have hF2 : FOwn U w2 W0.heap.size fo m fc (funcF 0 fs) := HF.out.mod t12.mod (fun b hb => hgo b (HU.out b hb) (Or.inl hb)) (fun b hb => hgo b (HF.out.blk hb).1 (Or.inr hb))
    have hsz12 := t12.mod.size
    have hszw : W0.heap.size ≤ w2.heap.size := Nat.le_trans HT.out.mod.size hsz12
    have hM2 : Hid (rdG f' (fs ++ [u]) (x.at p2) = X) := Lib.hid (by rw [← HM.out,rdG_go Hb.out (by rw [tail_at]; exact hg)])
    have B2 := Bel.alloc (Bel.refl w2) (.cells #[.string ⟨u.name.toArray⟩,.slice po k pc,.int .i64 ((sizeF fs : Int) + (size u.body : Int) - 1)] 61)
    have hnews : ∀ j v,(encF ⟨u.name,po,k,pc,(sizeF fs : Int) + (size u.body : Int) - 1⟩)[j]? = some v → (w2.alloc (.cells #[.string ⟨u.name.toArray⟩,.slice po k pc,.int .i64 ((sizeF fs : Int) + (size u.body : Int) - 1)] 61)).cell? ((⟨w2.heap.size,0,none⟩ : Addr).add j) = some v := World.news_of_block (cs := #[.string ⟨u.name.toArray⟩,.slice po k pc,.int .i64 ((sizeF fs : Int) + (size u.body : Int) - 1)]) (t := 61) (fr := (0,0)) (heap_new w2 _)
    have hpo : ∀ b,Blk po b → ¬ Blk fo b ∧ b < w2.heap.size := fun b hb => ⟨fun z => by have := hPn b hb; have := (HF.out.blk z).2; have := T1.out.mod.size; omega,(r2.sl b (Or.inr hb)).1⟩
    have Hf2 := Lib.hid (show FOwn (fun b => U b ∨ Blk po b) (w2.alloc (.cells #[.string ⟨u.name.toArray⟩,.slice po k pc,.int .i64 ((sizeF fs : Int) + (size u.body : Int) - 1)] 61)) W0.heap.size fo m fc (funcF 0 fs) from by
     obtain ⟨vs,a1,a2,a3,a4⟩ := hF2
     exact ⟨vs,own_belz a1 B2,a2,fun i a a' => (a3 i a a').on B2,fun v hv b hb => ⟨Or.inl (a4 v hv b hb).1,(a4 v hv b hb).2⟩⟩)
    have Hn := Lib.hid hnews
    have Hff := Lib.hid (show FFit (w2.alloc (.cells #[.string ⟨u.name.toArray⟩,.slice po k pc,.int .i64 ((sizeF fs : Int) + (size u.body : Int) - 1)] 61)) ⟨u.name,po,k,pc,(sizeF fs : Int) + (size u.body : Int) - 1⟩ ⟨u.name,u.params,(sizeF fs : Int) + (size u.body : Int) - 1⟩ from ⟨rfl,rfl,hK.on B2,hkc,fun _ => hPl⟩)
    have HUU := Lib.hid (show ∀ b,Blk po b → (U b ∨ Blk po b) ∧ ¬ Blk fo b ∧ b < (w2.alloc (.cells #[.string ⟨u.name.toArray⟩,.slice po k pc,.int .i64 ((sizeF fs : Int) + (size u.body : Int) - 1)] 61)).heap.size from fun b hb => ⟨Or.inr hb,(hpo b hb).1,Nat.lt_of_lt_of_le (hpo b hb).2 B2.size⟩)
    have HUl := Lib.hid (show ∀ b,(U b ∨ Blk po b) → b < (w2.alloc (.cells #[.string ⟨u.name.toArray⟩,.slice po k pc,.int .i64 ((sizeF fs : Int) + (size u.body : Int) - 1)] 61)).heap.size from fun b hb => Nat.lt_of_lt_of_le (r2.sl b (by rcases hb with q | q; exact Or.inl (Or.inr (Or.inr (Or.inl q))); exact Or.inr q)).1 B2.size)
    have Hbs : Hid (W0.heap.size ≤ (w2.alloc (.cells #[.string ⟨u.name.toArray⟩,.slice po k pc,.int .i64 ((sizeF fs : Int) + (size u.body : Int) - 1)] 61)).heap.size) := Lib.hid (Nat.le_trans hszw B2.size)
    have R2 := Lib.hid (r2.on B2)
    have T2 := Lib.hid ((HT.out.trans t12).bel B2)
    have hkk := Lib.hid (fun b (hb : Blk po b) => Nat.le_trans (Nat.le_trans HT.out.mod.size T1.out.mod.size) (hPn b hb))
    have hm1 : m ≤ 100000 := by omega
    have ppos := r2.ts.pos
    have Hfb := Lib.hid (fun b (hb : Blk fo b) => HF.out.blk hb)
    clear r2 t2 t12 hF2 B2 hnews hpo hg hK hgo hPl hPn
    go_wp2_with (at_builtin; refine list_appF (v := ⟨u.name,po,k,pc,(sizeF fs : Int) + (size u.body : Int) - 1⟩) _ _ rfl rfl rfl rfl rfl Hbs.out Hf2.out Hn.out Hff.out HUU.out HUl.out hm1 ?_; intro o3 c3 w3 g3 k3 l3; refine Hid.out ?_)
    refine Lib.hid ?_
    have m3 : Mod (fun b => Blk fo b) _ w3 := Mod.grown g3.out (fun b hb => by
     obtain ⟨vs,a1,-⟩ := Hf2.out
     exact (blk_of a1).2 hb)
    have hxg : ∀ b,Blk fo b → b ≠ x.g ∧ b ≠ x.tb := fun b hb => by have := (Hfb.out b hb).1; have := HB0.out.size; have := Hlt.out; omega
    have l0 := fun b (hb : Blk o3 b) => k3.out.blk hb
    have r3 : RS x (fun b => b = x.g ∨ (b = w.heap.size ∨ Z b) ∨ (U b ∨ Blk po b) ∨ Blk o3 b) p2 o2 (sizeF fs + size u.body) c2 (flatF 0 fs ++ flat (sizeF fs) u.body) w3 := by
     refine R2.out.rows m3 (fun b hb => Or.inl (Or.inr (Or.inr (Or.inr hb)))) (fun q => (hxg _ q).1 rfl) (fun q => (hxg _ q).2 rfl) (fun b hb => ?_) (fun b hb => ?_) (Or.inl rfl)
     ·rcases hb with q | q | (q | q) | q
      ·exact Or.inl (Or.inl (Or.inl q))
      ·exact Or.inl (Or.inl (Or.inr (Or.inl q)))
      ·exact Or.inl (Or.inl (Or.inr (Or.inr (Or.inl q))))
      ·exact Or.inl (Or.inr q)
      ·rcases l3.out b q with z | z
       ·exact Or.inl (Or.inl (Or.inr (Or.inr (Or.inr z))))
       ·exact Or.inr (by rw [z]; exact Nat.le_refl _)
     ·rcases hb with q | q | (q | q) | q
      ·exact Nat.lt_of_lt_of_le (R2.out.sl b (Or.inl (Or.inl q))).1 m3.size
      ·exact Nat.lt_of_lt_of_le (R2.out.sl b (Or.inl (Or.inr (Or.inl q)))).1 m3.size
      ·exact Nat.lt_of_lt_of_le (R2.out.sl b (Or.inl (Or.inr (Or.inr (Or.inl q))))).1 m3.size
      ·exact Nat.lt_of_lt_of_le (R2.out.sl b (Or.inr q)).1 m3.size
      ·exact (l0 b q).2
    have e1 : sizeF (fs ++ [u]) = sizeF fs + size u.body := by rw [sizeF_app,sizeF,sizeF,Nat.add_zero]
    have e2 : flatF 0 (fs ++ [u]) = flatF 0 fs ++ flat (sizeF fs) u.body := by rw [flatF_app,flatF,flatF,List.append_nil,Nat.zero_add]
    have hps := size_pos u.body
    have e3 : funcF 0 (fs ++ [u]) = funcF 0 fs ++ [⟨u.name,u.params,(sizeF fs : Int) + (size u.body : Int) - 1⟩] := by
     rw [funcF_app,funcF,funcF,Nat.zero_add,show ((sizeF fs + size u.body - 1 : Nat) : Int) = (sizeF fs : Int) + (size u.body : Int) - 1 by omega]
    have T3 : RTo x.g none W0 o2 w3 := ⟨T2.out.mod.trans m3 fun b hb => Or.inr (Hfb.out b hb).1,T2.out.at_⟩
    have ml := Lib.hid (left_is r3.ts)
    have R3 := Lib.hid r3
    have K3 := k3
    have T3' := Lib.hid T3
    have hmm := Lib.hid (show m + 1 = (fs ++ [u]).length by rw [List.length_append,List.length_singleton,← hm.out])
    have HU3 := Lib.hid (show ∀ b,(U b ∨ Blk po b) → W0.heap.size ≤ b from fun b hb => hb.elim (HU.out b) (hkk.out b))
    clear r3 T3 m3 hxg l0
    go_wp2_with fail
    go_round
    case rel => exact ⟨fs ++ [u],fun b => U b ∨ Blk po b,p2,o2,c2,o3,m + 1,c3,f',rfl,Lib.hid (by rw [e1,e2]; exact R3.out),Lib.hid (by rw [e3]; exact K3.out),T3',HU3,hM2,by omega,hmm,by omega⟩
    case measure => rw [ml.out]; omega
  | false =>
   have HA := Lib.hid (accept_no [102,117,110,99] wr HR.out hb)
   have Hb := Lib.hid hb
   clear hb
   go_wp2_with fail
   refine HA.out.mono ?_
   rintro e w1 ⟨rfl,r1,t1⟩
   have hgo : ∀ b,W0.heap.size ≤ b ∨ b = w.heap.size → (b = w.heap.size ∨ U b ∨ Blk fo b) → ¬ (b = x.g ∨ Blk o b) := fun b hb1 hb q => by
    rcases q with q | q
    ·have := HB0.out.size; omega
    ·exact (HR.out.sl b (by
      rcases hb with z | z
      ·exact Or.inr (Or.inl (Or.inl z))
      ·exact Or.inr (Or.inr z))).2 q
   have hF1 : FOwn U w1 W0.heap.size fo m fc (funcF 0 fs) := HF.out.mod t1.mod (fun b hb => hgo b (Or.inl (HU.out b hb)) (Or.inr (Or.inl hb))) (fun b hb => hgo b (Or.inl (HF.out.blk hb).1) (Or.inr (Or.inr hb)))
   have T1 := HT.out.trans t1
   have hw0 : ¬ (w.heap.size = x.g ∨ Blk (none : Option Addr) w.heap.size) := fun q => by
    rcases q with q | ⟨_,q⟩
    ·omega
    ·cases q
   have z0 := T1.mod.cell Hv.out.1 hw0
   have z1 := T1.mod.cell Hv.out.2.1 hw0
   have zl : w.heap.size < W0.heap.size := cell_lt' Hv.out.1
   have z2 : ∀ j,w1.frozen? ⟨w.heap.size,j,none⟩ = false := fun j => (World.frozen?_of_block (a := ⟨w.heap.size,j,none⟩) (T1.mod.block _ zl hw0)).trans (Hv.out.2.2 j)
   obtain ⟨m0,d,c0,y1,y2,y3⟩ := r1.ts.tok
   obtain ⟨t0,-,-,-⟩ := r1.ts.tks p r1.ts.pos
   have n1 := r1.nod
   have hcap := r1.own
   have R1 := Lib.hid r1
   have F1 := Lib.hid hF1
   have TT := Lib.hid T1
   have hx := hd_at x p
   generalize hq : p * 4 = z at *
   by_cases hr : x.at p = []
   ·have hk0 : (x.tok p).1.1 = 0 := by rw [← hx,hr]; rfl
    rw [hk0] at t0
    have hz : Hid (X = .ok fs []) := Lib.hid (by rw [← HM.out,hr,rdG_end])
    clear r1 t1 hF1 T1 hgo hx HA y1 y2 y3 hq
    go_wp2
    have a0 := World.cell?_setCell_same w1 ⟨w.heap.size,0,none⟩ (.slice o (sizeF fs) c) z0
    have a1 := World.cell?_setCell_same (w1.setCell ⟨w.heap.size,0,none⟩ (.slice o (sizeF fs) c)) ⟨w.heap.size,1,none⟩ (.slice fo m fc) ((World.cell?_setCell_other w1 ⟨w.heap.size,0,none⟩ ⟨w.heap.size,1,none⟩ _ (by simp)).trans z1)
    have a0' := (World.cell?_setCell_other (w1.setCell ⟨w.heap.size,0,none⟩ (.slice o (sizeF fs) c)) ⟨w.heap.size,1,none⟩ ⟨w.heap.size,0,none⟩ (.slice fo m fc) (by simp)).trans a0
    have M : Mod (fun b => b = w.heap.size) w1 ((w1.setCell ⟨w.heap.size,0,none⟩ (.slice o (sizeF fs) c)).setCell ⟨w.heap.size,1,none⟩ (.slice fo m fc)) := ((Mod.refl (fun b => b = w.heap.size) w1).setCell (p := ⟨w.heap.size,0,none⟩) (Or.inl rfl) _).setCell (p := ⟨w.heap.size,1,none⟩) (Or.inl rfl) _
    generalize (w1.setCell ⟨w.heap.size,0,none⟩ (.slice o (sizeF fs) c)).setCell ⟨w.heap.size,1,none⟩ (.slice fo m fc) = w5 at *
    refine bodyPost_ret (v := .agg #[.slice o (sizeF fs) c,.slice fo m fc]) (by simp [results,Tryz.results34,go_sem,a0',a1]) rfl ?_
    rw [hz.out]
    have h5 : NOwn _ w5 x.base o (sizeF fs) c (flatF 0 fs) := R1.out.own.mod M (fun b hb => Or.inr (Or.inl (Or.inl hb))) (fun b hb q => (R1.out.sl _ (Or.inr (Or.inl (Or.inl q)))).2 hb)
    have f5 : FOwn U w5 W0.heap.size fo m fc (funcF 0 fs) := F1.out.mod M (fun b hb q => by have := HU.out b hb; omega) (fun b hb q => by have := (F1.out.blk hb).1; omega)
    have hnc : sizeF fs ≤ c := by obtain ⟨vs,q,-⟩ := h5; exact own_cap q
    have hfc : m ≤ fc := by obtain ⟨vs,q,-⟩ := f5; exact own_cap q
    refine ⟨o,sizeF fs,c,fo,m,fc,rfl,hnc,hfc,fun F w2 hm2 hFZ => ⟨(h5.mod hm2 (fun b hb => Or.inr (Or.inl (Or.inr (hFZ b hb)))) (fun b hb q => (R1.out.sl b (Or.inr (Or.inl (Or.inr (hFZ b q))))).2 hb)).arg,(f5.mod hm2 (fun b hb q => by have := HU.out b hb; have := HZ.out b (hFZ b q); have := HB0.out.size; omega) (fun b hb q => by have := (F1.out.blk hb).1; have := HZ.out b (hFZ b q); have := HB0.out.size; omega)).arg⟩,?_,by have := R1.out.np; omega,by omega⟩
    refine ((Mod.of_bel (F := fun k => k = x.g) HB0.out).trans TT.out.mod fun b hb => ?_).trans M fun b hb => Or.inr (by rw [hb]; exact Nat.le_refl _)
    rcases hb with q | ⟨_,q⟩
    ·exact Or.inl q
    ·cases q
   ·have hlt2 : p < x.T.length := by
     rcases Nat.lt_or_ge p x.T.length with q | q
     ·exact q
     ·exact absurd (by unfold Cx.at; rw [List.drop_eq_nil_of_le q]; rfl) hr
    have hk0 : ¬ (x.tok p).1.1 = 0 := by
     unfold Cx.tok
     rw [List.getElem?_eq_getElem hlt2]
     exact Hpos.out _ (List.getElem_mem hlt2)
    have hz : Hid (X = .bad (x.at p)) := Lib.hid (by rw [← HM.out,rdG_no Hb.out hr])
    generalize (x.tok p).1.1 = tk at *
    clear r1 t1 hF1 T1 hgo hx HA y1 y2 y3 hq
    go_wp2
    rw [hz.out]
    exact ⟨rfl,Stops.from (RTo.of_bel (g := x.g) (o := none) HB0.out) ⟨rfl,TT.out.mod,p,R1.out.ts,rfl⟩⟩
end Syn
end Go.Proofs.YtcapkeaedpabjaaGreatDoor
