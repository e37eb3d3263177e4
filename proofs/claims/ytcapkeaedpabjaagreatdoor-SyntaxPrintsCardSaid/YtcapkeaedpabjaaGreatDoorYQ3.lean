/-
  Layer 8, texts merged: SwE, SwF. For every argument within the bounds that each theorem names.
-/
import Derived.Test.YtcapkeaedpabjaaGreatDoorYQ2
import Derived.Test.YtcapkeaedpabjaaGreatDoorYH2
import Derived.Test.YtcapkeaedpabjaaGreatDoorYK3
import Derived.Test.YtcapkeaedpabjaaGreatDoorYD3
import Derived.Test.YtcapkeaedpabjaaGreatDoorYH3
import Derived.Test.YtcapkeaedpabjaaGreatDoorYG3
set_option maxRecDepth 100000
set_option maxHeartbeats 16000000

/-
 Layer 8, the reference: Print.
-/
namespace Go.Proofs.YtcapkeaedpabjaaGreatDoor
open Go.RowKit Go.ChangeShapes Go.WideShapes
namespace Syn
def preF (fs : List Fu) (q : Nat) (nm : Txt) (ps : List Txt) (i : Nat) : Txt := txt (itW (fs.take q)) ++ ([102,117,110,99,32] ++ (nm ++ ([40] ++ Lib.join (ps.take i) [44,32])))
theorem preF_end (fs : List Fu) (q : Nat) (h : q < fs.length) : preF fs q fs[q].name fs[q].params fs[q].params.length ++ ([41,32] ++ (txt (itB 0 fs[q].body) ++ [10])) = txt (itW (fs.take (q + 1))) := by
 rw [List.take_succ_eq_append_getElem h,itW_snoc,itF_txt]
 unfold preF
 rw [List.take_length,← names_txt fs[q].params,join_row,names_txt]
 simp
theorem preF_step (fs : List Fu) (q : Nat) (nm : Txt) (ps : List Txt) (i : Nat) (h : i < ps.length) : preF fs q nm ps (i + 1) = (if i = 0 then preF fs q nm ps i else preF fs q nm ps i ++ [44,32]) ++ ps[i] := by
 unfold preF
 rw [join_take ps [44,32] i h,List.getD_eq_getElem?_getD,List.getElem?_eq_getElem h,Option.getD_some]
 split
 ·rename_i h0
  subst h0
  rw [List.take_zero,Lib.join_nil]
  simp
 ·simp
theorem rtok_wide (s : ByteArray) (w : World) : Calls Tryz.prog 35 #[.string s] w fun e w' => Lex.TRes w.heap.size w' e (Lex.tokens s.toList) ∧ Bel w w' := by
 by_cases h4 : 4000 < s.size
 ·have hT : Lex.tokens s.toList = ⟨[],0,3⟩ := by unfold Lex.tokens; rw [Lex.toL_len,if_pos h4]
  rw [hT]
  clear hT
  go_enter Tryz.func35,Tryz.ntmps35
  go_wp2
  go_ret3
  exact ⟨Lex.TRes.bad _ _ 0 3 _ rfl,Bel.refl _⟩
 ·exact Lex.rtokens_any s w (by omega)
theorem rprint_bad (no fo : Option Addr) (n nc k fc : Nat) (L : List Nd) (F : List Fw) (hn : n ≤ 4611686018427387904) (hk : k ≤ 4611686018427387904) (w : World) (hA : NArg w no n L) (hF : FArg w fo k F) (hr : Rch L F) (hc : chkE L F ≠ 0) :
  Calls Tryz.prog 15 #[.agg #[.slice no n nc,.slice fo k fc]] w fun e w' => e = .returned (.tuple #[.string ⟨#[]⟩,.int .i64 (chkE L F)]) ∧ Bel w w' := by
 obtain ⟨V,hV⟩ : ∃ V,w.alloc (.cells #[.slice no n nc,.slice fo k fc] 25) = V := ⟨_,rfl⟩
 have BV : Bel w V := by rw [← hV]; exact Bel.alloc (Bel.refl w) _
 have HBV := Lib.hid BV
 have HVe := Lib.hid hV
 have hC := rcheck_any no fo n nc k fc L F hn hk V (hA.on BV) (hF.on BV) hr.wf hr.fn hr.sn hr.sf
 rw [chkG_eq] at hC
 have HCh := Lib.hid hC
 generalize chkE L F = cc at *
 have h1 : (cc == 0) = false := by simpa using hc
 have h2 : (cc != 0) = true := by simpa using hc
 clear hA hF hr BV hV hC
 go_enter Tryz.func15,Tryz.ntmps15
 go_wp2_with fail
 rw [HVe.out]
 refine HCh.out.mono ?_
 rintro e w2 ⟨rfl,g⟩
 have G := Lib.hid (Bel.trans HBV.out g)
 clear g
 go_wp2_with fail
 go_ret2
 exact ⟨rfl,G.out⟩
theorem rprint_ok (no fo : Option Addr) (n nc k fc : Nat) (fs : List Fu) (hg : ∀ f ∈ fs,goodFu f) (w : World) (hA : NArg w no n (flatF 0 fs)) (hF : FArg w fo k (funcF 0 fs)) (hr : Rch (flatF 0 fs) (funcF 0 fs)) (hc : chkE (flatF 0 fs) (funcF 0 fs) = 0) :
  Calls Tryz.prog 15 #[.agg #[.slice no n nc,.slice fo k fc]] w fun e w' => e = .returned (.tuple #[.string ⟨(prT fs).toArray⟩,.int .i64 (prE fs)]) ∧ Bel w w' := by
 have hlen := chk_ok hc
 rw [flatF_len,funcF_len] at hlen
 have hpar : ∀ f ∈ fs,f.params.length ≤ 8 := by
  unfold chkE at hc
  split at hc
  ·cases hc
  split at hc
  ·cases hc
  split at hc
  ·cases hc
  ·rename_i h
   intro f hf
   obtain ⟨i,hi,rfl⟩ := List.mem_iff_getElem.1 hf
   obtain ⟨z,hz,-⟩ := at_func fs [] [] i hi
   have hmem := List.mem_of_getElem? hz
   rcases Nat.lt_or_ge 8 fs[i].params.length with q | q
   ·refine absurd (Or.inl ?_) h
    rw [List.any_eq_true]
    exact ⟨_,hmem,by simpa using q⟩
   ·exact q
 have hsz : ∀ f ∈ fs,goodFu f ∧ f.params.length ≤ 8 ∧ size f.body ≤ 1000 := fun f hf => ⟨hg f hf,hpar f hf,by have := size_mem fs f hf; omega⟩
 have hW := len_W fs hsz
 have hfs : fs.length = k := by have := hF.1; rw [funcF_len] at this; exact this
 have hnn : sizeF fs = n := by have := hA.1; rw [flatF_len] at this; exact this
 obtain ⟨V,hV⟩ : ∃ V,w.alloc (.cells #[.slice no n nc,.slice fo k fc] 25) = V := ⟨_,rfl⟩
 have BV : Bel w V := by rw [← hV]; exact Bel.alloc (Bel.refl w) _
 obtain ⟨v0,v1⟩ : V.cell? ⟨w.heap.size,0,none⟩ = some (.slice no n nc) ∧ V.cell? ⟨w.heap.size,1,none⟩ = some (.slice fo k fc) := by
  rw [← hV]
  exact ⟨World.cell?_alloc_new ..,World.cell?_alloc_new ..⟩
 have hC := rcheck_any no fo n nc k fc (flatF 0 fs) (funcF 0 fs) (by omega) (by omega) V (hA.on BV) (hF.on BV) hr.wf hr.fn hr.sn hr.sf
 rw [chkG_eq,hc] at hC
 have HCh := Lib.hid hC
 have HBV := Lib.hid BV
 have HVe := Lib.hid hV
 have HV0 := Lib.hid v0
 have HV1 := Lib.hid v1
 have HF := Lib.hid (hF.on BV)
 have HA := Lib.hid (hA.on BV)
 have HG := Lib.hid hsz
 have Hfs := Lib.hid hfs
 have HW := Lib.hid (show (txt (itW fs)).length ≤ 4000000 by omega)
 have hkk : k ≤ 100000 := by omega
 have Hlx := Lib.hid (prog_lex fs hg)
 obtain ⟨RT,hRT⟩ : ∃ RT,prT fs = RT := ⟨_,rfl⟩
 obtain ⟨RE0,hRE⟩ : ∃ RE0,prE fs = RE0 := ⟨_,rfl⟩
 have HRT := Lib.hid hRT
 have HRE := Lib.hid hRE
 rw [hRT,hRE]
 clear hA hF hr hC BV hc hg hpar hsz hW hlen hfs hnn hRT hRE hV
 go_enter Tryz.func15,Tryz.ntmps15
 go_wp2_with fail
 rw [HVe.out]
 refine HCh.out.mono ?_
 rintro e w1 ⟨rfl,g⟩
 have HB1 := Lib.hid g
 clear g HCh v0 v1
 go_wp2_with fail
 go_loopw [5,6] (fun tv iv wr => ∃ (q : Nat) (T : ByteArray),tv = .string T ∧ iv = .int .i64 (q : Int) ∧ q ≤ k ∧ Hid (T.toList = txt (itW (fs.take q))) ∧ Hid (Bel V wr)) (fun _ iv _ => k - (intOf iv).toNat)
 case atStart => exact ⟨0,_,rfl,rfl,Nat.zero_le _,Lib.hid (by rw [List.take_zero]; exact tlB _),HB1⟩
 case round =>
  obtain ⟨q,T,rfl,rfl,hq,hTl,hB⟩ := hrel
  rename World => wr
  have v0 := hB.out.cell' HV0.out
  have v1 := hB.out.cell' HV1.out
  have hTs : T.size ≤ 4000000 := by
   rw [← Lex.toL_len,hTl.out]
   have h1 := itW_take fs q
   have h2 := HW.out
   omega
  by_cases hqk : q < k
  ·have hql : q < fs.length := by rw [Hfs.out]; exact hqk
   obtain ⟨bF,offF,rfl,hcs⟩ := HF.out.2 (by omega)
   obtain ⟨z,hz,hat⟩ := at_func fs [] [] q hql
   rw [List.nil_append,List.append_nil] at hat
   obtain ⟨hqF,hze⟩ := List.getElem?_eq_some_iff.1 hz
   obtain ⟨v,hv,hcc⟩ := hcs q hqF
   have hze2 : (funcF 0 fs)[q] = ⟨fs[q].name,fs[q].params,(z : Int)⟩ := hze
   rw [hze2] at hv
   obtain ⟨hgf,hp8,hsb⟩ := HG.out fs[q] (List.getElem_mem hql)
   have hsp := hv.sps
   obtain ⟨vs,po,pk,pc,vj⟩ := v
   obtain rfl : vs = fs[q].name := hv.s
   obtain rfl : vj = (z : Int) := hv.j
   have hpk : fs[q].params.length = pk := hsp.1
   have hpk8 : pk ≤ 8 := by omega
   have HP := Lib.hid (show ∀ W,Bel V W → W.cell? ⟨bF,offF + q * 3,none⟩ = some (.string ⟨fs[q].name.toArray⟩) ∧ W.cell? ⟨bF,offF + q * 3 + 1,none⟩ = some (.slice po pk pc) ∧ W.cell? ⟨bF,offF + q * 3 + 2,none⟩ = some (.int .i64 (z : Int)) from fun W g => ⟨g.cell' (by simpa using hcc 0 _ rfl),g.cell' (by simpa using hcc 1 _ rfl),g.cell' (by simpa using hcc 2 _ rfl)⟩)
   have hnl := name_len hgf.2.2.1
   have hpl := names_len fs[q].params hgf.2.2.2
   have hbl := len_B (good_body hgf) 0 (by omega)
   have HPn := Lib.hid (show ∀ i (h : i < fs[q].params.length),(fs[q].params[i]).length ≤ 402 from fun i h => name_len (hgf.2.2.2 _ (List.getElem_mem h)))
   have HK0 := Lib.hid (fun W (B : Bel V W) => rB (no := no) (n := n) (nc := nc) (good_body hgf) z hat 0 (by omega) W (HA.out.on B))
   have HSp := Lib.hid hsp
   have Hend := Lib.hid (preF_end fs q hql)
   obtain ⟨N,hN⟩ : ∃ N : ByteArray,⟨fs[q].name.toArray⟩ = N := ⟨_,rfl⟩
   obtain ⟨K,hK⟩ : ∃ K : ByteArray,⟨(txt (itB 0 fs[q].body)).toArray⟩ = K := ⟨_,rfl⟩
   have hNs : N.size ≤ 402 := by rw [← hN,← Lex.toL_len,tlB]; exact hnl
   have hKs : K.size ≤ 10000000 := by rw [← hK,← Lex.toL_len,tlB]; omega
   have hNl : N.toList = fs[q].name := by rw [← hN]; exact tlB _
   have HKl := Lib.hid (show K.toList = txt (itB 0 fs[q].body) by rw [← hK]; exact tlB _)
   have HT0 := Lib.hid (show (T ++ ⟨#[102,117,110,99,32]⟩ ++ N ++ ⟨#[40]⟩).toList = preF fs q fs[q].name fs[q].params 0 by
    unfold preF
    rw [List.take_zero,Lib.join_nil,← hTl.out,← hNl]
    simp [Go.ByteArray.toList_eq])
   have HPl := Lib.hid (show ∀ i,i ≤ fs[q].params.length → (preF fs q fs[q].name fs[q].params i).length ≤ 5000000 from fun i _ => by
    have h1 := join_take_le fs[q].params [44,32] i
    have h2 : (Lib.join fs[q].params [44,32]).length ≤ 10000 := by
     have : Lib.join fs[q].params [44,32] = txt (sep (fs[q].params.map fun s => [nI s])) := by rw [← join_row,names_txt]
     rw [this]
     omega
    have h3 := itW_take fs q
    have h4 := HW.out
    unfold preF
    simp only [List.length_append,List.length_cons,List.length_nil]
    omega)
   rw [hN] at HP
   rw [hK] at HK0
   have f1 : (9223372036854775807 < T.size + 5) = False := eq_false (by omega)
   have f2 : (9223372036854775807 < T.size + 5 + N.size) = False := eq_false (by omega)
   have f3 : (9223372036854775807 < T.size + 5 + N.size + 1) = False := eq_false (by omega)
   have hqk' : (q : Int) < (k : Int) := by omega
   have hq0 : (0 : Int) ≤ (q : Int) := by omega
   obtain ⟨p0,p1,p2⟩ := HP.out wr hB.out
   generalize fs[q].params = ps at *
   generalize fs[q].name = nm at *
   generalize txt (itB 0 fs[q].body) = bt at *
   clear hql hcs hz hat hqF hze hze2 hv hcc hgf hp8 hsb hnl hpl hbl hN hK hNl hsp hTl
   go_wp2_with fail
   go_loopw [5,7] (fun tv iv w5 => ∃ (i : Nat) (T2 : ByteArray),tv = .string T2 ∧ iv = .int .i64 (i : Int) ∧ i ≤ pk ∧ Hid (T2.toList = preF fs q nm ps i) ∧ Hid (Bel V w5)) (fun _ iv _ => pk - (intOf iv).toNat)
   case atStart => exact ⟨0,_,rfl,rfl,Nat.zero_le _,HT0,hB⟩
   case round =>
    obtain ⟨i,T2,rfl,rfl,hi,hT2,hB5⟩ := hrel
    rename World => w5
    clear v0 v1 p0 p1 p2
    have v0 := hB5.out.cell' HV0.out
    have v1 := hB5.out.cell' HV1.out
    obtain ⟨p0,p1,p2⟩ := HP.out w5 hB5.out
    have hT2s : T2.size ≤ 5000000 := by
     rw [← Lex.toL_len,hT2.out]
     exact HPl.out i (by omega)
    rcases Nat.lt_or_ge i pk with hip | hip
    ·have hil : i < ps.length := by omega
     obtain ⟨pb,pf,rfl,hpc⟩ := HSp.out.2 (by omega)
     have c0 := hB5.out.cell' (hpc i hil)
     have hPn := HPn.out i hil
     have hst := preF_step fs q nm ps i hil
     obtain ⟨Pb,hPb⟩ : ∃ Pb : ByteArray,⟨ps[i].toArray⟩ = Pb := ⟨_,rfl⟩
     have hPs : Pb.size ≤ 402 := by rw [← hPb,← Lex.toL_len,tlB]; exact hPn
     have hPl : Pb.toList = ps[i] := by rw [← hPb]; exact tlB _
     rw [hPb] at c0
     rw [← hPl] at hst
     have hi1 : (i : Int) < (pk : Int) := by omega
     have hi0 : (0 : Int) ≤ (i : Int) := by omega
     have f4 : (9223372036854775807 < T2.size + 2) = False := eq_false (by omega)
     have f5 : (9223372036854775807 < T2.size + 2 + Pb.size) = False := eq_false (by omega)
     have f6 : (9223372036854775807 < T2.size + Pb.size) = False := eq_false (by omega)
     clear hpc hPn hPb hPl
     by_cases h0 : i = 0
     ·subst h0
      rw [Nat.add_zero] at c0
      rw [if_pos rfl] at hst
      have HT3 := Lib.hid (show (T2 ++ Pb).toList = preF fs q nm ps 1 by
       rw [show preF fs q nm ps 1 = preF fs q nm ps (0 + 1) from rfl,hst,← hT2.out]
       simp [Go.ByteArray.toList_eq])
      clear hst hT2
      go_wp2_with fail
      go_round
      case rel => exact ⟨1,_,rfl,by go_num,by omega,HT3,hB5⟩
      case measure => first | (simp [intOf]; done) | (simp [intOf]; omega)
     ·rw [if_neg h0] at hst
      have HT3 := Lib.hid (show (T2 ++ ⟨#[44,32]⟩ ++ Pb).toList = preF fs q nm ps (i + 1) by
       rw [hst,← hT2.out]
       simp [Go.ByteArray.toList_eq])
      have h0' : (0 : Int) < (i : Int) := by omega
      clear hst hT2 h0
      go_wp2_with fail
      go_round
      case rel => exact ⟨i + 1,_,rfl,by go_num,by omega,HT3,hB5⟩
      case measure => first | (simp [intOf]; done) | (simp [intOf]; omega)
    ·obtain rfl : i = pk := by omega
     have HT3 := Lib.hid (show (T2 ++ ⟨#[41,32]⟩ ++ K ++ ⟨#[10]⟩).toList = txt (itW (fs.take (q + 1))) by
      rw [← Hend.out,hpk,← hT2.out,← HKl.out]
      simp [Go.ByteArray.toList_eq])
     have HK := Lib.hid (show ∀ W,(W.cell? ⟨w.heap.size,0,none⟩ = some (.slice no n nc) ∧ W.cell? ⟨w.heap.size,1,none⟩ = some (.slice (some ⟨bF,offF,none⟩) k fc) ∧ W.cell? ⟨bF,offF + q * 3 + 2,none⟩ = some (.int .i64 (z : Int)) ∧ Bel w5 W) → Calls Tryz.prog 48 #[.slice no n nc,.int .i64 (z : Int),.int .i64 0] W fun e w' => e = .returned (.string K) ∧ w'.cell? ⟨w.heap.size,0,none⟩ = some (.slice no n nc) ∧ w'.cell? ⟨w.heap.size,1,none⟩ = some (.slice (some ⟨bF,offF,none⟩) k fc) ∧ w'.cell? ⟨bF,offF + q * 3 + 2,none⟩ = some (.int .i64 (z : Int)) ∧ Bel w5 w' from fun W hS => (HK0.out W (Bel.trans hB5.out hS.2.2.2)).mono fun e w' r => ⟨r.1,r.2.cell' hS.1,r.2.cell' hS.2.1,r.2.cell' hS.2.2.1,Bel.trans hS.2.2.2 r.2⟩)
     have f4 : (9223372036854775807 < T2.size + 2) = False := eq_false (by omega)
     have f5 : (9223372036854775807 < T2.size + 2 + K.size) = False := eq_false (by omega)
     have f6 : (9223372036854775807 < T2.size + 2 + K.size + 1) = False := eq_false (by omega)
     clear hT2
     go_wp2_with fail
     go_region_held3 (fun W => W.cell? ⟨w.heap.size,0,none⟩ = some (.slice no n nc) ∧ W.cell? ⟨w.heap.size,1,none⟩ = some (.slice (some ⟨bF,offF,none⟩) k fc) ∧ W.cell? ⟨bF,offF + q * 3 + 2,none⟩ = some (.int .i64 (z : Int)) ∧ Bel w5 W) (first | exact ⟨a1,a2,a3,a4⟩ | exact ⟨v0,v1,p2,Below.drew (Bel.refl _)⟩) (first | (go_at_call 48; (with_reducible refine (HK.out _ ?_).mono ?_); (first | assumption | exact ⟨v0,v1,p2,Below.drew (Bel.refl _)⟩); rintro e w' ⟨rfl,a1,a2,a3,a4⟩))
     all_goals
      have A4 := Lib.hid (Bel.trans hB5.out a4)
      go_wp2_with fail
      go_round
      case rel => exact ⟨q + 1,_,rfl,by go_num,by omega,HT3,A4⟩
      case measure => first | (simp [intOf]; done) | (simp [intOf]; omega)
  ·obtain rfl : q = k := by omega
   have ht : T.toList = txt (itW fs) := by
    have := hTl.out
    rw [List.take_of_length_le (by rw [Hfs.out]; omega)] at this
    exact this
   have HT := Lib.hid (rtok_wide T wr)
   rw [ht] at HT
   have hE : prE fs = (Lex.tokens (txt (itW fs))).e := rfl
   have hlx := Hlx.out
   obtain ⟨R,hR⟩ : ∃ R,Lex.tokens (txt (itW fs)) = R := ⟨_,rfl⟩
   rw [hR] at HT hE hlx
   have hRE2 := HRE.out
   rw [hE] at hRE2
   have hRT2 := HRT.out
   unfold prT at hRT2
   rw [hE] at hRT2
   have HB2 := Lib.hid (Bel.trans HBV.out hB.out)
   by_cases h0 : R.e = 0
   ·rw [if_pos h0] at hRT2
    rw [h0] at hRE2
    have hTT := Lib.hid (show T = ⟨RT.toArray⟩ by rw [← hRT2,← ht]; exact (Lex.str_back T).symm)
    subst hRE2
    clear hRT2 ht hE hR hTs hlx
    go_wp2_with fail
    refine HT.out.mono ?_
    rintro e w2 ⟨⟨o2,n2,c2,rfl,hA2,-,-⟩,g⟩
    have G := Lib.hid (Bel.trans HB2.out g)
    rw [h0]
    clear g hA2 h0 HT
    go_wp2_with fail
    go_ret2
    exact ⟨by rw [← hTT.out]; rfl,G.out⟩
   ·rw [if_neg h0] at hRT2
    have h3 : R.e = 3 := by
     rcases hlx with h | h
     ·exact absurd h.1 h0
     ·exact h
    subst hRT2
    rw [h3] at hRE2
    subst hRE2
    clear ht hE hR hTs hlx h0
    go_wp2_with fail
    refine HT.out.mono ?_
    rintro e w2 ⟨⟨o2,n2,c2,rfl,hA2,-,-⟩,g⟩
    have G := Lib.hid (Bel.trans HB2.out g)
    rw [h3]
    clear g hA2 HT h3
    go_wp2_with fail
    go_ret2
    exact ⟨rfl,G.out⟩
theorem chk_proper2 {L : List Nd} {F : List Fw} (h : chkE L F = 0) : properB L F = true := by
 unfold chkE at h
 split at h
 ·cases h
 ·split at h
  ·cases h
  ·rename_i h2
   simpa using h2
theorem law_prints (no fo : Option Addr) (n nc k fc : Nat) (L : List Nd) (F : List Fw) (hn : n ≤ 4611686018427387904) (hk : k ≤ 4611686018427387904) (w : World) (hm : Lex.ML w) (hA : NArg w no n L) (hF : FArg w fo k F) (hr : Rch L F) :
  Calls Tryz.prog 4 #[.agg #[.slice no n nc,.slice fo k fc]] w fun e w' => e = .returned (.bool true) ∧ Bel w w' := by
 obtain ⟨V,hV⟩ : ∃ V,w.alloc (.cells #[.slice no n nc,.slice fo k fc] 25) = V := ⟨_,rfl⟩
 have BV : Bel w V := by rw [← hV]; exact Bel.alloc (Bel.refl _) _
 obtain ⟨v0,v1⟩ : V.cell? ⟨w.heap.size,0,none⟩ = some (.slice no n nc) ∧ V.cell? ⟨w.heap.size,1,none⟩ = some (.slice fo k fc) := by
  rw [← hV]
  exact ⟨World.cell?_alloc_new ..,World.cell?_alloc_new ..⟩
 have HBV := Lib.hid BV
 have HVe := Lib.hid hV
 have HP := Lib.hid (show ∀ W,Bel V W → W.cell? ⟨w.heap.size,0,none⟩ = some (.slice no n nc) ∧ W.cell? ⟨w.heap.size,1,none⟩ = some (.slice fo k fc) from fun W g => ⟨g.cell' v0,g.cell' v1⟩)
 have HW := Lib.hid (fun W (g : Bel V W) => awake_any W ((hm.on BV).on g))
 have H1 := Lib.hid (fun W (g : Bel V W) => check_any no fo n nc k fc L F hk hn W ((hm.on BV).on g) ((hA.on BV).on g) ((hF.on BV).on g) hr.wf (fun x hx => (hr.fn x hx).1))
 have H2 := Lib.hid (fun W (g : Bel V W) => rcheck_any no fo n nc k fc L F hn hk W ((hA.on BV).on g) ((hF.on BV).on g) hr.wf hr.fn hr.sn hr.sf)
 rw [chkG_eq] at H2
 have HPr := Lib.hid (show ∃ (t : Txt) (pe : Int),(∀ W,Bel V W → Calls Tryz.prog 14 #[.agg #[.slice no n nc,.slice fo k fc]] W fun e w' => e = .returned (.tuple #[.string ⟨t.toArray⟩,.int .i64 pe]) ∧ Bel W w') ∧ (∀ W,Bel V W → Calls Tryz.prog 15 #[.agg #[.slice no n nc,.slice fo k fc]] W fun e w' => e = .returned (.tuple #[.string ⟨t.toArray⟩,.int .i64 pe]) ∧ Bel W w') from by
  by_cases hc : chkE L F = 0
  ·obtain ⟨fs,hL,hFs,hgd⟩ := proper_good (chk_proper2 hc)
   subst hL hFs
   exact ⟨prT fs,prE fs,fun W g => print_ok no fo n nc k fc fs hgd W ((hm.on BV).on g) ((hA.on BV).on g) ((hF.on BV).on g) hr.wf hc,fun W g => rprint_ok no fo n nc k fc fs hgd W ((hA.on BV).on g) ((hF.on BV).on g) hr hc⟩
  ·exact ⟨[],chkE L F,fun W g => print_bad no fo n nc k fc L F hk hn W ((hm.on BV).on g) ((hA.on BV).on g) ((hF.on BV).on g) hr.wf (fun x hx => (hr.fn x hx).1) hc,fun W g => rprint_bad no fo n nc k fc L F hn hk W ((hA.on BV).on g) ((hF.on BV).on g) hr hc⟩)
 obtain ⟨t,pe,hp1,hp2⟩ := HPr.out
 have HP1 := Lib.hid hp1
 have HP2 := Lib.hid hp2
 have HVd := Lib.hid (show Bel V V.drew from Below.drew (Bel.refl _))
 generalize chkE L F = ce at *
 clear hA hF hr hm BV hV HPr hp1 hp2
 go_enter Tryz.func4,Tryz.ntmps4
 go_upto_region 1 with (fail)
 rw [HVe.out]
 refine wp_region_held_drew (S := fun W => W.cell? ⟨w.heap.size,0,none⟩ = some (.slice no n nc) ∧ W.cell? ⟨w.heap.size,1,none⟩ = some (.slice fo k fc)) (by kernel_rfl) ⟨v0,v1⟩ (fun hH => ?_)
 refine tk1 (i := 0) (d := 7) (v := ?_) rfl rfl ?_ ?_
 rotate_left 1
 ·rintro w ⟨z0,z1⟩
  go_simp
  with_reducible rfl
 try simp only [Act.put,List.setIfInBounds_toArray,List.set_cons_zero,List.set_cons_succ]
 refine tk1 (i := 2) (d := 9) (v := ?_) rfl rfl ?_ ?_
 rotate_left 1
 ·rintro w ⟨z0,z1⟩
  go_simp
  with_reducible rfl
 try simp only [Act.put,List.setIfInBounds_toArray,List.set_cons_zero,List.set_cons_succ]
 refine wpAnyH_ready (rs := [1]) (by kernel_rfl) (by simp) ?_
 refine AllReadyH.cons rfl (fun K hK => ?_) AllReadyH.nil
 go_simp
 refine (H1.out _ HVd.out).mono ?_
 rintro e w2 ⟨rfl,g⟩
 have G2 := Lib.hid (Bel.trans HVd.out g)
 have sH := HP.out w2 G2.out
 clear g
 clear hH
 refine hK.out _ _ sH (fun hH => ?_)
 clear hK K sH
 try simp only [Act.put,List.setIfInBounds_toArray,List.set_cons_zero,List.set_cons_succ]
 refine wpAnyH_ready (rs := [3]) (by kernel_rfl) (by simp) ?_
 refine AllReadyH.cons rfl (fun K hK => ?_) AllReadyH.nil
 go_simp
 refine (H2.out _ G2.out).mono ?_
 rintro e w3 ⟨rfl,g⟩
 have G3 := Lib.hid (Bel.trans G2.out g)
 have sH := HP.out w3 G3.out
 clear g
 clear hH
 refine hK.out _ _ sH (fun hH => ?_)
 clear hK K sH
 try simp only [Act.put,List.setIfInBounds_toArray,List.set_cons_zero,List.set_cons_succ]
 refine tk1 (i := 4) (d := 11) (v := .bool false) rfl rfl ?_ ?_
 ·rintro w ⟨z0,z1⟩
  go_simp
  try simp
 try simp only [Act.put,List.setIfInBounds_toArray,List.set_cons_zero,List.set_cons_succ]
 refine wpAnyH_done (by kernel_rfl) ?_ _
 obtain ⟨x0,x1⟩ := hH
 clear v0 v1
 go_wp2_with fail
 refine (HP1.out _ G3.out).mono ?_
 rintro e w4 ⟨rfl,g⟩
 have G4 := Lib.hid (Bel.trans G3.out g)
 clear g x0 x1
 obtain ⟨x0,x1⟩ := HP.out w4 G4.out
 go_wp2_with fail
 refine (HP2.out _ G4.out).mono ?_
 rintro e w5 ⟨rfl,g⟩
 have G5 := Lib.hid (Bel.trans G4.out g)
 clear g x0 x1
 go_wp2_with fail
 refine (HW.out _ G5.out).mono ?_
 rintro e w6 ⟨rfl,g⟩
 go_wp2_with fail
 go_ret
 exact ⟨rfl,Bel.trans HBV.out (Bel.trans G5.out g)⟩
end Syn
end Go.Proofs.YtcapkeaedpabjaaGreatDoor
