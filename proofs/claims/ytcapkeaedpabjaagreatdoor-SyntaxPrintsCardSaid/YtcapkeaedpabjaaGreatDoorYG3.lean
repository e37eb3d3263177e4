/-
  Layer 8, texts merged: SchI. For every argument within the bounds that each theorem names.
-/
import Derived.Test.YtcapkeaedpabjaaGreatDoorYG2
set_option maxRecDepth 100000
set_option maxHeartbeats 16000000

/-
 Layer 8: rootsOf, as the program has it.
-/
namespace Go.Proofs.YtcapkeaedpabjaaGreatDoor
open Go.RowKit Go.ChangeShapes Go.WideShapes
namespace Syn

def WfN (L : List Nd) : Prop := ∀ x ∈ L,(-9223372036854775808 ≤ x.i ∧ x.i ≤ 9223372036854775807) ∧ x.keys.length ≤ 4611686018427387904 ∧ x.kids.length ≤ 4611686018427387904
theorem cut_upto {w : World} {base m c : Nat} {p : Option Addr} {xs : List Value} (h : w.ownsRow base 3 1 (.slice p m c) m xs) (i : Nat) (hi : i ≤ m) (W : World) :
  (Instr.slice 38 (.slice p m c) none (some (.int .i64 (i : Int))) none).run Tryz.prog W = .ok (.slice p i c) W := by
 have hcap := own_cap h
 rcases h.2 with ⟨hv,hk⟩ | ⟨g,cap,cur,hv,_,_,_⟩
 ·simp only [Value.slice.injEq] at hv
  obtain ⟨rfl,-,rfl⟩ := hv
  subst hk
  obtain rfl : i = 0 := by omega
  rw [run_slice_h W 38 _ 0 0 elem_int .i64 ((0 : Nat) : Int) (by omega) (by omega),size_int]
  rfl
 ·simp only [Value.slice.injEq] at hv
  obtain ⟨rfl,-,rfl⟩ := hv
  rw [run_slice_h W 38 _ m c elem_int .i64 (i : Int) (by omega) (by omega),size_int]
  simp only [Result.andThen,sliced,Int.toNat_natCast,Nat.zero_mul,Nat.sub_zero,Option.map_some,Addr.add_zero',ite_self]
theorem take_not {P : Program} {ops : Array Oper} {Q : Exit → Act → World → Prop} {md : Region.Mode} {S : World → Prop} {i d fuel : Nat} {oi : Oper} {listed : Array Bool} {a : Act} {w : World} (hi : ops[i]? = some oi) (hd : oi.dst = some d) (hs : Region.noSelect ops = true) (hf : Region.free md ops listed i = true) (hr : (Region.ready md ops listed).contains i = true) (hQ : ∀ c a w,Q (.panic c) (a.put (some d) undef) w → Q (.panic c) a w) (hy : Region.wanted oi (yielded ops a.tmps) = false) (hS : S w) (h : wpAnyH P md ops Q S fuel (listed.setIfInBounds i true) (a.put (some d) undef) w) : wpAnyH P md ops Q S (fuel + 1) listed a w :=
 wpAnyH_take (v := undef) hi hs hf hr (by rw [hd]; exact hQ) (Or.inr ⟨hy,rfl⟩) hS (by rw [hd]; exact h)
theorem take_yes {P : Program} {ops : Array Oper} {Q : Exit → Act → World → Prop} {md : Region.Mode} {S : World → Prop} {i d fuel : Nat} {oi : Oper} {v : Value} {listed : Array Bool} {a : Act} {w : World} (hi : ops[i]? = some oi) (hd : oi.dst = some d) (hs : Region.noSelect ops = true) (hf : Region.free md ops listed i = true) (hr : (Region.ready md ops listed).contains i = true) (hQ : ∀ c a w,Q (.panic c) (a.put (some d) v) w → Q (.panic c) a w) (hy : Region.wanted oi (yielded ops a.tmps) = true) (hv : ∀ w,S w → (execOp a.eval oi).run P w = .ok (.value v) w) (hS : S w) (h : wpAnyH P md ops Q S fuel (listed.setIfInBounds i true) (a.put (some d) v) w) : wpAnyH P md ops Q S (fuel + 1) listed a w :=
 wpAnyH_take hi hs hf hr (by rw [hd]; exact hQ) (Or.inl ⟨hy,hv⟩) hS (by rw [hd]; exact h)
theorem tk0 {P : Program} {ops : Array Oper} {Q : Exit → Act → World → Prop} {md : Region.Mode} {S : World → Prop} {i d fuel : Nat} {oi : Oper} {listed : Array Bool} {a : Act} {w : World} (hi : ops[i]? = some oi) (hd : oi.dst = some d) (h : wpAnyH P md ops Q S fuel (listed.setIfInBounds i true) (a.put (some d) undef) w) (hs : Region.noSelect ops = true := by kernel_rfl) (hf : Region.free md ops listed i = true := by kernel_rfl) (hr : (Region.ready md ops listed).contains i = true := by kernel_rfl) (hQ : ∀ c a w,Q (.panic c) (a.put (some d) undef) w → Q (.panic c) a w := by exact fun _ _ _ h => h) (hy : Region.wanted oi (yielded ops a.tmps) = false := by rfl) (hS : S w := by assumption) : wpAnyH P md ops Q S (fuel + 1) listed a w := take_not hi hd hs hf hr hQ hy hS h
theorem tk1 {P : Program} {ops : Array Oper} {Q : Exit → Act → World → Prop} {md : Region.Mode} {S : World → Prop} {i d fuel : Nat} {oi : Oper} {v : Value} {listed : Array Bool} {a : Act} {w : World} (hi : ops[i]? = some oi) (hd : oi.dst = some d) (hv : ∀ w,S w → (execOp a.eval oi).run P w = .ok (.value v) w) (h : wpAnyH P md ops Q S fuel (listed.setIfInBounds i true) (a.put (some d) v) w) (hs : Region.noSelect ops = true := by kernel_rfl) (hf : Region.free md ops listed i = true := by kernel_rfl) (hr : (Region.ready md ops listed).contains i = true := by kernel_rfl) (hQ : ∀ c a w,Q (.panic c) (a.put (some d) v) w → Q (.panic c) a w := by exact fun _ _ _ h => h) (hy : Region.wanted oi (yielded ops a.tmps) = true := by rfl) (hS : S w := by assumption) : wpAnyH P md ops Q S (fuel + 1) listed a w := take_yes hi hd hs hf hr hQ hy hv hS h
def RtsPost (w : World) (X : Option (List Int)) (e : Ending) (w' : World) : Prop :=
 match X with
 | none => e = .returned (.tuple #[.slice none 0 0,.bool false]) ∧ Bel w w'
 | some op => (∃ o c,e = .returned (.tuple #[.slice o op.length c,.bool true]) ∧ RArg w' o op.length op) ∧ Bel w w'
theorem roots_any (no : Option Addr) (n nc : Nat) (L : List Nd) (hn : n ≤ 100000) (w : World) (hm : Lex.ML w) (hA : NArg w no n L) (hwf : WfN L) :
  Calls Tryz.prog 83 #[.slice no n nc] w (RtsPost w (rts L 0 L [])) := by
 obtain ⟨X,hX⟩ : ∃ X,rts L 0 L [] = X := ⟨_,rfl⟩
 rw [hX]
 have HX := Lib.hid hX
 have HA := Lib.hid hA
 have HM0 := Lib.hid hm
 have HW := Lib.hid hwf
 have HLn := Lib.hid hA.1
 clear hX hA hm hwf
 go_enter Tryz.func83,Tryz.ntmps83
 go_wp2_with fail
 go_loopw [4,10] (fun ov iv wr => ∃ (i m c : Nat) (p : Option Addr) (op : List Int),ov = .slice p m c ∧ iv = .int .i64 (i : Int) ∧ i ≤ n ∧ m ≤ i ∧ Hid (op.length = m) ∧ Hid (wr.ownsRow w.heap.size 3 1 (.slice p m c) m (encZ op)) ∧ Hid (Bel w wr) ∧ Hid (rts L i (L.drop i) op = X) ∧ Hid (∀ z ∈ op,0 ≤ z ∧ z < (i : Int))) (fun _ iv _ => n - (intOf iv).toNat)
 case atStart => exact ⟨0,0,0,none,[],rfl,rfl,Nat.zero_le _,Nat.le_refl _,Lib.hid rfl,Lib.hid (World.ownsRow_nil _ _ _ _),Lib.hid (Bel.refl _),HX,Lib.hid (fun z hz => by cases hz)⟩
 case round =>
  obtain ⟨i,m,c,p,op,rfl,rfl,hi,hmi,Hlen,Hown,HB,HM,Hz⟩ := hrel
  rename World => wr
  rcases Nat.lt_or_ge i n with hin | hin
  ·have hiL : i < L.length := by rw [HLn.out]; exact hin
   obtain ⟨b,off,rfl,hcs⟩ := HA.out.2 (by omega)
   obtain ⟨v,hv,hcc⟩ := hcs i hiL
   have c0 : wr.cell? ⟨b,off + i * 5,none⟩ = some (.int .i64 v.k) := HB.out.cell' (by simpa using hcc 0 _ rfl)
   have c1 : wr.cell? ⟨b,off + i * 5 + 1,none⟩ = some (.string ⟨v.s.toArray⟩) := HB.out.cell' (by simpa using hcc 1 _ rfl)
   have c2 : wr.cell? ⟨b,off + i * 5 + 2,none⟩ = some (.int .i64 v.i) := HB.out.cell' (by simpa using hcc 2 _ rfl)
   have c3 : wr.cell? ⟨b,off + i * 5 + 3,none⟩ = some (.slice v.ko v.kn v.kc) := HB.out.cell' (by simpa using hcc 3 _ rfl)
   have c4 : wr.cell? ⟨b,off + i * 5 + 4,none⟩ = some (.slice v.jo v.jn v.jc) := HB.out.cell' (by simpa using hcc 4 _ rfl)
   obtain ⟨x,hx⟩ : ∃ x,L[i] = x := ⟨_,rfl⟩
   rw [hx] at hv
   have hxm : x ∈ L := by rw [← hx]; exact List.getElem_mem hiL
   obtain ⟨w1,w2,w3⟩ := HW.out x hxm
   have hdr : L.drop i = x :: L.drop (i + 1) := by rw [List.drop_eq_getElem_cons hiL,hx]
   have hM := HM.out
   rw [hdr] at hM
   obtain ⟨k,s,z,ko,kn,kc,jo,jn,jc⟩ := v
   have ek := hv.k
   have es := hv.s
   have ei := hv.i
   have ejl : x.kids.length = jn := hv.kids.1
   have ekl : x.keys.length = kn := by have := hv.keys.1; rw [List.length_map] at this; exact this
   dsimp only at c0 c1 c2 c3 c4 ek es ei ejl ekl
   subst ek es ei
   have hv' := Lib.hid (hv.on HB.out)
   obtain ⟨V,hV⟩ : ∃ V,wr.alloc (.cells #[.int .i64 x.k,.string ⟨x.s.toArray⟩,.int .i64 x.i,.slice ko kn kc,.slice jo jn jc] 65) = V := ⟨_,rfl⟩
   have BV : Bel wr V := by rw [← hV]; exact Bel.alloc (Bel.refl wr) _
   obtain ⟨y0,y1,y2,y3,y4⟩ : V.cell? ⟨wr.heap.size,0,none⟩ = some (.int .i64 x.k) ∧ V.cell? ⟨wr.heap.size,1,none⟩ = some (.string ⟨x.s.toArray⟩) ∧ V.cell? ⟨wr.heap.size,2,none⟩ = some (.int .i64 x.i) ∧ V.cell? ⟨wr.heap.size,3,none⟩ = some (.slice ko kn kc) ∧ V.cell? ⟨wr.heap.size,4,none⟩ = some (.slice jo jn jc) := by rw [← hV]; exact box5 wr _ _ _ _ _ _
   have HBV := Lib.hid (Bel.trans HB.out BV)
   by_cases hkm : m < jn
   ·have hz2 : Hid (X = none) := Lib.hid (by rw [← hM,rts_far (by rw [ejl,Hlen.out]; omega)])
    have hlt : (m : Int) - (jn : Int) < 0 := by omega
    clear hv hM hdr hcs hcc
    go_wp2_with fail
    go_quiet (fail)
    go_wp2_with fail
    go_ret2
    rw [hz2.out]
    exact ⟨rfl,Bel.drewN HBV.out _⟩
   ·obtain ⟨f,hf⟩ : ∃ f : Nat,m = f + jn := ⟨m - jn,by omega⟩
    have hsub : (m : Int) - (jn : Int) = (f : Int) := by omega
    have hfl : (0 : Int) ≤ (f : Int) := by omega
    have hfm : f ≤ m := by omega
    obtain ⟨q,d,hcut,hRq⟩ := cut_from (own_belz Hown.out BV) f hfm
    rw [show m - f = jn by omega] at hcut hRq
    have HE := eqI_any q jo jn jn d jc (op.drop f) x.kids (by rw [← ejl]; exact w3) (by rw [← ejl]; exact w3)
    have hKR := (hv'.out.kids.on BV).rarg
    have hSE : ∀ b,decide (op.drop f = x.kids) = b → ∀ W,(W.cell? ⟨wr.heap.size,4,none⟩ = some (.slice jo jn jc) ∧ Bel V W) → Calls Tryz.prog 137 #[.slice q jn d,.slice jo jn jc] W fun e w' => e = .returned (.bool b) ∧ w'.cell? ⟨wr.heap.size,4,none⟩ = some (.slice jo jn jc) ∧ Bel V w' := fun b hb W hS => (HE W (hRq.on hS.2) (hKR.on hS.2)).mono fun e w' k => ⟨by rw [← hb]; exact k.1,k.2.cell' hS.1,Bel.trans hS.2 k.2⟩
    cases hd : decide (op.drop f = x.kids) with
    | false =>
     have hz2 : Hid (X = none) := Lib.hid (by rw [← hM,rts_far (by rw [ejl,Hlen.out,show m - jn = f by omega]; exact fun q => by simp [q.2] at hd)])
     have HSE := Lib.hid (hSE false hd)
     clear hv hM hdr hcs hcc hd hSE HE hKR hRq hf
     go_wp2_with fail
     go_region_held3 (fun W => W.cell? ⟨wr.heap.size,4,none⟩ = some (.slice jo jn jc) ∧ Bel V W) (first | exact ⟨h1,h2⟩ | exact ⟨y4,Below.drew (Bel.refl _)⟩) (first | (go_at_call 137; (with_reducible refine (HSE.out _ ?_).mono ?_); (first | assumption | exact ⟨y4,Below.drew (Bel.refl _)⟩); rintro e w' ⟨rfl,h1,h2⟩))
     go_wp2_with fail
     go_ret2
     rw [hz2.out]
     exact ⟨rfl,Bel.trans HBV.out h2⟩
    | true =>
     have hMm := HM0.out
     have hzz := Hz.out
     have hin' : (i : Int) ≤ (n : Int) := by omega
     have hkz : ∀ z ∈ x.kids,0 ≤ z ∧ z < (n : Int) := fun z hz => by
      have hq : op.drop f = x.kids := by simpa using hd
      rw [← hq] at hz
      have := hzz z (List.mem_of_mem_drop hz)
      exact ⟨this.1,by omega⟩
     have hVw : Bel w V := HBV.out
     have hNV := HA.out.on hVw
     have HT := Lib.hid (show ∀ W,(W.cell? ⟨wr.heap.size,0,none⟩ = some (.int .i64 x.k) ∧ W.cell? ⟨wr.heap.size,1,none⟩ = some (.string ⟨x.s.toArray⟩) ∧ W.cell? ⟨wr.heap.size,2,none⟩ = some (.int .i64 x.i) ∧ W.cell? ⟨wr.heap.size,3,none⟩ = some (.slice ko kn kc) ∧ W.cell? ⟨wr.heap.size,4,none⟩ = some (.slice jo jn jc) ∧ Bel V W) → Calls Tryz.prog 138 #[.agg #[.int .i64 x.k,.string ⟨x.s.toArray⟩,.int .i64 x.i,.slice ko kn kc,.slice jo jn jc]] W fun e w' => e = .returned (.bool (textB x.k x.s)) ∧ (w'.cell? ⟨wr.heap.size,0,none⟩ = some (.int .i64 x.k) ∧ w'.cell? ⟨wr.heap.size,1,none⟩ = some (.string ⟨x.s.toArray⟩) ∧ w'.cell? ⟨wr.heap.size,2,none⟩ = some (.int .i64 x.i) ∧ w'.cell? ⟨wr.heap.size,3,none⟩ = some (.slice ko kn kc) ∧ w'.cell? ⟨wr.heap.size,4,none⟩ = some (.slice jo jn jc) ∧ Bel V w') from fun W hS => (text_fits x.k x.s x.i ko jo kn kc jn jc W (hMm.on (Bel.trans hVw hS.2.2.2.2.2))).mono fun e w' k => by
      obtain ⟨e1,g⟩ := k
      exact ⟨e1,⟨g.cell' hS.1,g.cell' hS.2.1,g.cell' hS.2.2.1,g.cell' hS.2.2.2.1,g.cell' hS.2.2.2.2.1,Bel.trans hS.2.2.2.2.2 g⟩⟩)
     have HI := Lib.hid (show ∀ W,(W.cell? ⟨wr.heap.size,0,none⟩ = some (.int .i64 x.k) ∧ W.cell? ⟨wr.heap.size,1,none⟩ = some (.string ⟨x.s.toArray⟩) ∧ W.cell? ⟨wr.heap.size,2,none⟩ = some (.int .i64 x.i) ∧ W.cell? ⟨wr.heap.size,3,none⟩ = some (.slice ko kn kc) ∧ W.cell? ⟨wr.heap.size,4,none⟩ = some (.slice jo jn jc) ∧ Bel V W) → Calls Tryz.prog 139 #[.agg #[.int .i64 x.k,.string ⟨x.s.toArray⟩,.int .i64 x.i,.slice ko kn kc,.slice jo jn jc]] W fun e w' => e = .returned (.bool (intF x.k x.i)) ∧ (w'.cell? ⟨wr.heap.size,0,none⟩ = some (.int .i64 x.k) ∧ w'.cell? ⟨wr.heap.size,1,none⟩ = some (.string ⟨x.s.toArray⟩) ∧ w'.cell? ⟨wr.heap.size,2,none⟩ = some (.int .i64 x.i) ∧ w'.cell? ⟨wr.heap.size,3,none⟩ = some (.slice ko kn kc) ∧ w'.cell? ⟨wr.heap.size,4,none⟩ = some (.slice jo jn jc) ∧ Bel V w') from fun W hS => (int_fits x.k x.s x.i w1 ko jo kn kc jn jc W (hMm.on (Bel.trans hVw hS.2.2.2.2.2))).mono fun e w' k => by
      obtain ⟨e1,g⟩ := k
      exact ⟨e1,⟨g.cell' hS.1,g.cell' hS.2.1,g.cell' hS.2.2.1,g.cell' hS.2.2.2.1,g.cell' hS.2.2.2.2.1,Bel.trans hS.2.2.2.2.2 g⟩⟩)
     have HK := Lib.hid (show ∀ W,(W.cell? ⟨wr.heap.size,0,none⟩ = some (.int .i64 x.k) ∧ W.cell? ⟨wr.heap.size,1,none⟩ = some (.string ⟨x.s.toArray⟩) ∧ W.cell? ⟨wr.heap.size,2,none⟩ = some (.int .i64 x.i) ∧ W.cell? ⟨wr.heap.size,3,none⟩ = some (.slice ko kn kc) ∧ W.cell? ⟨wr.heap.size,4,none⟩ = some (.slice jo jn jc) ∧ Bel V W) → Calls Tryz.prog 140 #[.agg #[.int .i64 x.k,.string ⟨x.s.toArray⟩,.int .i64 x.i,.slice ko kn kc,.slice jo jn jc]] W fun e w' => e = .returned (.bool (keysB x.k x.keys jn)) ∧ (w'.cell? ⟨wr.heap.size,0,none⟩ = some (.int .i64 x.k) ∧ w'.cell? ⟨wr.heap.size,1,none⟩ = some (.string ⟨x.s.toArray⟩) ∧ w'.cell? ⟨wr.heap.size,2,none⟩ = some (.int .i64 x.i) ∧ w'.cell? ⟨wr.heap.size,3,none⟩ = some (.slice ko kn kc) ∧ w'.cell? ⟨wr.heap.size,4,none⟩ = some (.slice jo jn jc) ∧ Bel V w') from fun W hS => (keys_fits x.k x.s x.i ko jo kn kc jn jc x.keys (by rw [← ekl]; exact w2) W (hMm.on (Bel.trans hVw hS.2.2.2.2.2)) ((hv'.out.keys.on BV).on hS.2.2.2.2.2)).mono fun e w' k => by
      obtain ⟨e1,g⟩ := k
      exact ⟨e1,⟨g.cell' hS.1,g.cell' hS.2.1,g.cell' hS.2.2.1,g.cell' hS.2.2.2.1,g.cell' hS.2.2.2.2.1,Bel.trans hS.2.2.2.2.2 g⟩⟩)
     have HR := Lib.hid (show ∀ W,(W.cell? ⟨wr.heap.size,0,none⟩ = some (.int .i64 x.k) ∧ W.cell? ⟨wr.heap.size,1,none⟩ = some (.string ⟨x.s.toArray⟩) ∧ W.cell? ⟨wr.heap.size,2,none⟩ = some (.int .i64 x.i) ∧ W.cell? ⟨wr.heap.size,3,none⟩ = some (.slice ko kn kc) ∧ W.cell? ⟨wr.heap.size,4,none⟩ = some (.slice jo jn jc) ∧ Bel V W) → Calls Tryz.prog 142 #[.slice (some ⟨b,off,none⟩) n nc,.slice jo jn jc] W fun e w' => (∃ o,e = .returned (.slice o jn jn) ∧ Hid (RArg w' o jn (rolesL L x.kids))) ∧ (w'.cell? ⟨wr.heap.size,0,none⟩ = some (.int .i64 x.k) ∧ w'.cell? ⟨wr.heap.size,1,none⟩ = some (.string ⟨x.s.toArray⟩) ∧ w'.cell? ⟨wr.heap.size,2,none⟩ = some (.int .i64 x.i) ∧ w'.cell? ⟨wr.heap.size,3,none⟩ = some (.slice ko kn kc) ∧ w'.cell? ⟨wr.heap.size,4,none⟩ = some (.slice jo jn jc) ∧ Bel V w') from fun W hS => (roles_any (some ⟨b,off,none⟩) jo n nc jn jc L x.kids (by omega) (by omega) hkz W (hNV.on hS.2.2.2.2.2) ((hv'.out.kids.on BV).on hS.2.2.2.2.2)).mono fun e w' k => by
      obtain ⟨⟨o,e1,e2⟩,g⟩ := k
      exact ⟨⟨o,e1,Lib.hid e2⟩,⟨g.cell' hS.1,g.cell' hS.2.1,g.cell' hS.2.2.1,g.cell' hS.2.2.2.1,g.cell' hS.2.2.2.2.1,Bel.trans hS.2.2.2.2.2 g⟩⟩)
     have HP := Lib.hid (show ∀ (o : Option Addr) (W : World),Hid (RArg W o jn (rolesL L x.kids)) → (W.cell? ⟨wr.heap.size,0,none⟩ = some (.int .i64 x.k) ∧ W.cell? ⟨wr.heap.size,1,none⟩ = some (.string ⟨x.s.toArray⟩) ∧ W.cell? ⟨wr.heap.size,2,none⟩ = some (.int .i64 x.i) ∧ W.cell? ⟨wr.heap.size,3,none⟩ = some (.slice ko kn kc) ∧ W.cell? ⟨wr.heap.size,4,none⟩ = some (.slice jo jn jc) ∧ Bel V W) → Calls Tryz.prog 141 #[.int .i64 x.k,.slice o jn jn] W fun e w' => e = .returned (.bool (partB x.k (rolesL L x.kids))) ∧ (w'.cell? ⟨wr.heap.size,0,none⟩ = some (.int .i64 x.k) ∧ w'.cell? ⟨wr.heap.size,1,none⟩ = some (.string ⟨x.s.toArray⟩) ∧ w'.cell? ⟨wr.heap.size,2,none⟩ = some (.int .i64 x.i) ∧ w'.cell? ⟨wr.heap.size,3,none⟩ = some (.slice ko kn kc) ∧ w'.cell? ⟨wr.heap.size,4,none⟩ = some (.slice jo jn jc) ∧ Bel V w') from fun o W hR hS => (part_any x.k o jn jn _ (by omega) W hR.out).mono fun e w' k => by
      obtain ⟨e1,g⟩ := k
      exact ⟨e1,⟨g.cell' hS.1,g.cell' hS.2.1,g.cell' hS.2.2.1,g.cell' hS.2.2.2.1,g.cell' hS.2.2.2.2.1,Bel.trans hS.2.2.2.2.2 g⟩⟩)
     have hnd : ndB L x = (textB x.k x.s && (intF x.k x.i && (keysB x.k x.keys jn && partB x.k (rolesL L x.kids)))) := by unfold ndB; rw [ejl]
     have Hndn := Lib.hid (fun h : ndB L x = false => show X = none by rw [← hM,rts_bad h])
     have hfar : x.kids.length ≤ op.length ∧ op.drop (op.length - x.kids.length) = x.kids := ⟨by rw [ejl,Hlen.out]; omega,by rw [ejl,Hlen.out,show m - jn = f by omega]; simpa using hd⟩
     have Hgo := Lib.hid (fun h : ndB L x = true => show rts L (i + 1) (L.drop (i + 1)) (op.take f ++ [(i : Int)]) = X by
      rw [← hM,rts_go hfar h,ejl,Hlen.out,show m - jn = f by omega])
     have Hown2 := Lib.hid Hown.out
     generalize textB x.k x.s = bT at *
     generalize intF x.k x.i = bI at *
     generalize keysB x.k x.keys jn = bK at *
     generalize partB x.k (rolesL L x.kids) = bP at *
     have HSE := Lib.hid (hSE true hd)
     clear hv hM hdr hcs hcc hd hSE HE hKR hRq hMm hzz hkz hVw hNV hfar hf
     go_wp2_with fail
     go_region_held3 (fun W => W.cell? ⟨wr.heap.size,4,none⟩ = some (.slice jo jn jc) ∧ Bel V W) (first | exact ⟨h1,h2⟩ | exact ⟨y4,Below.drew (Bel.refl _)⟩) (first | (go_at_call 137; (with_reducible refine (HSE.out _ ?_).mono ?_); (first | assumption | exact ⟨y4,Below.drew (Bel.refl _)⟩); rintro e w' ⟨rfl,h1,h2⟩))
     have x0 := h2.cell' y0
     have x1 := h2.cell' y1
     have x2 := h2.cell' y2
     have x3 := h2.cell' y3
     have H2 := Lib.hid h2
     clear y0 y1 y2 y3 y4
     cases bT with
     | false =>
      have hz2 : Hid (X = none) := Lib.hid (Hndn.out (by rw [hnd]; rfl))
      go_wp2_with fail
      refine wp_region_held_drew (S := fun W => W.cell? ⟨wr.heap.size,0,none⟩ = some (.int .i64 x.k) ∧ W.cell? ⟨wr.heap.size,1,none⟩ = some (.string ⟨x.s.toArray⟩) ∧ W.cell? ⟨wr.heap.size,2,none⟩ = some (.int .i64 x.i) ∧ W.cell? ⟨wr.heap.size,3,none⟩ = some (.slice ko kn kc) ∧ W.cell? ⟨wr.heap.size,4,none⟩ = some (.slice jo jn jc) ∧ Bel V W) (by kernel_rfl) ⟨x0,x1,x2,x3,h1,Below.drew h2⟩ (fun hH => ?_)
      refine tk1 (i := 0) (d := 32) (v := ?_) rfl rfl ?_ ?_
      rotate_left 1
      ·rintro w ⟨z0,z1,z2,z3,z4,z5⟩
       go_simp
       with_reducible rfl
      try simp only [Act.put,List.setIfInBounds_toArray,List.set_cons_zero,List.set_cons_succ]
      refine wpAnyH_ready (rs := [1]) (by kernel_rfl) (by simp) ?_
      refine AllReadyH.cons rfl (fun K hK => ?_) AllReadyH.nil
      go_simp
      refine (HT.out _ hH).mono ?_
      rintro e w8 ⟨rfl,hG⟩
      clear hH
      refine hK.out _ _ hG (fun hH => ?_)
      clear hK K hG
      try simp only [Act.put,List.setIfInBounds_toArray,List.set_cons_zero,List.set_cons_succ]
      refine tk1 (i := 2) (d := 34) (v := ?_) rfl rfl ?_ ?_
      rotate_left 1
      ·rintro w ⟨z0,z1,z2,z3,z4,z5⟩
       go_simp
       with_reducible rfl
      try simp only [Act.put,List.setIfInBounds_toArray,List.set_cons_zero,List.set_cons_succ]
      refine tk1 (i := 3) (d := 35) (v := ?_) rfl rfl ?_ ?_
      rotate_left 1
      ·rintro w ⟨z0,z1,z2,z3,z4,z5⟩
       go_simp
       with_reducible rfl
      try simp only [Act.put,List.setIfInBounds_toArray,List.set_cons_zero,List.set_cons_succ]
      refine tk0 (i := 4) (d := 36) rfl rfl ?_
      try simp only [Act.put,List.setIfInBounds_toArray,List.set_cons_zero,List.set_cons_succ]
      refine tk0 (i := 5) (d := 37) rfl rfl ?_
      try simp only [Act.put,List.setIfInBounds_toArray,List.set_cons_zero,List.set_cons_succ]
      refine tk0 (i := 6) (d := 38) rfl rfl ?_
      try simp only [Act.put,List.setIfInBounds_toArray,List.set_cons_zero,List.set_cons_succ]
      refine tk1 (i := 7) (d := 39) (v := ?_) rfl rfl ?_ ?_
      rotate_left 1
      ·rintro w ⟨z0,z1,z2,z3,z4,z5⟩
       go_simp
       with_reducible rfl
      try simp only [Act.put,List.setIfInBounds_toArray,List.set_cons_zero,List.set_cons_succ]
      refine tk1 (i := 8) (d := 40) (v := ?_) rfl rfl ?_ ?_
      rotate_left 1
      ·rintro w ⟨z0,z1,z2,z3,z4,z5⟩
       go_simp
       with_reducible rfl
      try simp only [Act.put,List.setIfInBounds_toArray,List.set_cons_zero,List.set_cons_succ]
      refine tk0 (i := 9) (d := 41) rfl rfl ?_
      try simp only [Act.put,List.setIfInBounds_toArray,List.set_cons_zero,List.set_cons_succ]
      refine tk0 (i := 10) (d := 42) rfl rfl ?_
      try simp only [Act.put,List.setIfInBounds_toArray,List.set_cons_zero,List.set_cons_succ]
      refine tk0 (i := 11) (d := 43) rfl rfl ?_
      try simp only [Act.put,List.setIfInBounds_toArray,List.set_cons_zero,List.set_cons_succ]
      refine tk1 (i := 12) (d := 44) (v := ?_) rfl rfl ?_ ?_
      rotate_left 1
      ·rintro w ⟨z0,z1,z2,z3,z4,z5⟩
       go_simp
       with_reducible rfl
      try simp only [Act.put,List.setIfInBounds_toArray,List.set_cons_zero,List.set_cons_succ]
      refine tk1 (i := 13) (d := 45) (v := ?_) rfl rfl ?_ ?_
      rotate_left 1
      ·rintro w ⟨z0,z1,z2,z3,z4,z5⟩
       go_simp
       with_reducible rfl
      try simp only [Act.put,List.setIfInBounds_toArray,List.set_cons_zero,List.set_cons_succ]
      refine tk0 (i := 14) (d := 46) rfl rfl ?_
      try simp only [Act.put,List.setIfInBounds_toArray,List.set_cons_zero,List.set_cons_succ]
      refine tk0 (i := 15) (d := 47) rfl rfl ?_
      try simp only [Act.put,List.setIfInBounds_toArray,List.set_cons_zero,List.set_cons_succ]
      refine tk0 (i := 16) (d := 48) rfl rfl ?_
      try simp only [Act.put,List.setIfInBounds_toArray,List.set_cons_zero,List.set_cons_succ]
      refine tk0 (i := 17) (d := 49) rfl rfl ?_
      try simp only [Act.put,List.setIfInBounds_toArray,List.set_cons_zero,List.set_cons_succ]
      refine tk0 (i := 18) (d := 50) rfl rfl ?_
      try simp only [Act.put,List.setIfInBounds_toArray,List.set_cons_zero,List.set_cons_succ]
      refine tk0 (i := 19) (d := 51) rfl rfl ?_
      try simp only [Act.put,List.setIfInBounds_toArray,List.set_cons_zero,List.set_cons_succ]
      refine tk0 (i := 20) (d := 52) rfl rfl ?_
      try simp only [Act.put,List.setIfInBounds_toArray,List.set_cons_zero,List.set_cons_succ]
      refine tk0 (i := 21) (d := 53) rfl rfl ?_
      try simp only [Act.put,List.setIfInBounds_toArray,List.set_cons_zero,List.set_cons_succ]
      refine tk1 (i := 22) (d := 54) (v := ?_) rfl rfl ?_ ?_
      rotate_left 1
      ·rintro w ⟨z0,z1,z2,z3,z4,z5⟩
       go_simp
       with_reducible rfl
      try simp only [Act.put,List.setIfInBounds_toArray,List.set_cons_zero,List.set_cons_succ]
      refine wpAnyH_done (by kernel_rfl) ?_ _
      obtain ⟨a0,a1,a2,a3,a4,a5⟩ := hH
      all_goals
       go_wp2_with fail
       go_ret2
       rw [hz2.out]
       exact ⟨rfl,Bel.trans HBV.out a5⟩
     | true =>
      cases bI with
      | false =>
       have hz2 : Hid (X = none) := Lib.hid (Hndn.out (by rw [hnd]; rfl))
       go_wp2_with fail
       refine wp_region_held_drew (S := fun W => W.cell? ⟨wr.heap.size,0,none⟩ = some (.int .i64 x.k) ∧ W.cell? ⟨wr.heap.size,1,none⟩ = some (.string ⟨x.s.toArray⟩) ∧ W.cell? ⟨wr.heap.size,2,none⟩ = some (.int .i64 x.i) ∧ W.cell? ⟨wr.heap.size,3,none⟩ = some (.slice ko kn kc) ∧ W.cell? ⟨wr.heap.size,4,none⟩ = some (.slice jo jn jc) ∧ Bel V W) (by kernel_rfl) ⟨x0,x1,x2,x3,h1,Below.drew h2⟩ (fun hH => ?_)
       refine tk1 (i := 0) (d := 32) (v := ?_) rfl rfl ?_ ?_
       rotate_left 1
       ·rintro w ⟨z0,z1,z2,z3,z4,z5⟩
        go_simp
        with_reducible rfl
       try simp only [Act.put,List.setIfInBounds_toArray,List.set_cons_zero,List.set_cons_succ]
       refine wpAnyH_ready (rs := [1]) (by kernel_rfl) (by simp) ?_
       refine AllReadyH.cons rfl (fun K hK => ?_) AllReadyH.nil
       go_simp
       refine (HT.out _ hH).mono ?_
       rintro e w8 ⟨rfl,hG⟩
       clear hH
       refine hK.out _ _ hG (fun hH => ?_)
       clear hK K hG
       try simp only [Act.put,List.setIfInBounds_toArray,List.set_cons_zero,List.set_cons_succ]
       refine tk1 (i := 2) (d := 34) (v := ?_) rfl rfl ?_ ?_
       rotate_left 1
       ·rintro w ⟨z0,z1,z2,z3,z4,z5⟩
        go_simp
        with_reducible rfl
       try simp only [Act.put,List.setIfInBounds_toArray,List.set_cons_zero,List.set_cons_succ]
       refine tk1 (i := 3) (d := 35) (v := ?_) rfl rfl ?_ ?_
       rotate_left 1
       ·rintro w ⟨z0,z1,z2,z3,z4,z5⟩
        go_simp
        with_reducible rfl
       try simp only [Act.put,List.setIfInBounds_toArray,List.set_cons_zero,List.set_cons_succ]
       refine tk1 (i := 4) (d := 36) (v := ?_) rfl rfl ?_ ?_
       rotate_left 1
       ·rintro w ⟨z0,z1,z2,z3,z4,z5⟩
        go_simp
        with_reducible rfl
       try simp only [Act.put,List.setIfInBounds_toArray,List.set_cons_zero,List.set_cons_succ]
       refine wpAnyH_ready (rs := [5]) (by kernel_rfl) (by simp) ?_
       refine AllReadyH.cons rfl (fun K hK => ?_) AllReadyH.nil
       go_simp
       refine (HI.out _ hH).mono ?_
       rintro e w8 ⟨rfl,hG⟩
       clear hH
       refine hK.out _ _ hG (fun hH => ?_)
       clear hK K hG
       try simp only [Act.put,List.setIfInBounds_toArray,List.set_cons_zero,List.set_cons_succ]
       refine tk1 (i := 6) (d := 38) (v := ?_) rfl rfl ?_ ?_
       rotate_left 1
       ·rintro w ⟨z0,z1,z2,z3,z4,z5⟩
        go_simp
        with_reducible rfl
       try simp only [Act.put,List.setIfInBounds_toArray,List.set_cons_zero,List.set_cons_succ]
       refine tk1 (i := 7) (d := 39) (v := ?_) rfl rfl ?_ ?_
       rotate_left 1
       ·rintro w ⟨z0,z1,z2,z3,z4,z5⟩
        go_simp
        with_reducible rfl
       try simp only [Act.put,List.setIfInBounds_toArray,List.set_cons_zero,List.set_cons_succ]
       refine tk1 (i := 8) (d := 40) (v := ?_) rfl rfl ?_ ?_
       rotate_left 1
       ·rintro w ⟨z0,z1,z2,z3,z4,z5⟩
        go_simp
        with_reducible rfl
       try simp only [Act.put,List.setIfInBounds_toArray,List.set_cons_zero,List.set_cons_succ]
       refine tk0 (i := 9) (d := 41) rfl rfl ?_
       try simp only [Act.put,List.setIfInBounds_toArray,List.set_cons_zero,List.set_cons_succ]
       refine tk0 (i := 10) (d := 42) rfl rfl ?_
       try simp only [Act.put,List.setIfInBounds_toArray,List.set_cons_zero,List.set_cons_succ]
       refine tk0 (i := 11) (d := 43) rfl rfl ?_
       try simp only [Act.put,List.setIfInBounds_toArray,List.set_cons_zero,List.set_cons_succ]
       refine tk1 (i := 12) (d := 44) (v := ?_) rfl rfl ?_ ?_
       rotate_left 1
       ·rintro w ⟨z0,z1,z2,z3,z4,z5⟩
        go_simp
        with_reducible rfl
       try simp only [Act.put,List.setIfInBounds_toArray,List.set_cons_zero,List.set_cons_succ]
       refine tk1 (i := 13) (d := 45) (v := ?_) rfl rfl ?_ ?_
       rotate_left 1
       ·rintro w ⟨z0,z1,z2,z3,z4,z5⟩
        go_simp
        with_reducible rfl
       try simp only [Act.put,List.setIfInBounds_toArray,List.set_cons_zero,List.set_cons_succ]
       refine tk0 (i := 14) (d := 46) rfl rfl ?_
       try simp only [Act.put,List.setIfInBounds_toArray,List.set_cons_zero,List.set_cons_succ]
       refine tk0 (i := 15) (d := 47) rfl rfl ?_
       try simp only [Act.put,List.setIfInBounds_toArray,List.set_cons_zero,List.set_cons_succ]
       refine tk0 (i := 16) (d := 48) rfl rfl ?_
       try simp only [Act.put,List.setIfInBounds_toArray,List.set_cons_zero,List.set_cons_succ]
       refine tk0 (i := 17) (d := 49) rfl rfl ?_
       try simp only [Act.put,List.setIfInBounds_toArray,List.set_cons_zero,List.set_cons_succ]
       refine tk0 (i := 18) (d := 50) rfl rfl ?_
       try simp only [Act.put,List.setIfInBounds_toArray,List.set_cons_zero,List.set_cons_succ]
       refine tk0 (i := 19) (d := 51) rfl rfl ?_
       try simp only [Act.put,List.setIfInBounds_toArray,List.set_cons_zero,List.set_cons_succ]
       refine tk0 (i := 20) (d := 52) rfl rfl ?_
       try simp only [Act.put,List.setIfInBounds_toArray,List.set_cons_zero,List.set_cons_succ]
       refine tk0 (i := 21) (d := 53) rfl rfl ?_
       try simp only [Act.put,List.setIfInBounds_toArray,List.set_cons_zero,List.set_cons_succ]
       refine tk1 (i := 22) (d := 54) (v := ?_) rfl rfl ?_ ?_
       rotate_left 1
       ·rintro w ⟨z0,z1,z2,z3,z4,z5⟩
        go_simp
        with_reducible rfl
       try simp only [Act.put,List.setIfInBounds_toArray,List.set_cons_zero,List.set_cons_succ]
       refine wpAnyH_done (by kernel_rfl) ?_ _
       obtain ⟨a0,a1,a2,a3,a4,a5⟩ := hH
       all_goals
        go_wp2_with fail
        go_ret2
        rw [hz2.out]
        exact ⟨rfl,Bel.trans HBV.out a5⟩
      | true =>
       cases bK with
       | false =>
        have hz2 : Hid (X = none) := Lib.hid (Hndn.out (by rw [hnd]; rfl))
        go_wp2_with fail
        refine wp_region_held_drew (S := fun W => W.cell? ⟨wr.heap.size,0,none⟩ = some (.int .i64 x.k) ∧ W.cell? ⟨wr.heap.size,1,none⟩ = some (.string ⟨x.s.toArray⟩) ∧ W.cell? ⟨wr.heap.size,2,none⟩ = some (.int .i64 x.i) ∧ W.cell? ⟨wr.heap.size,3,none⟩ = some (.slice ko kn kc) ∧ W.cell? ⟨wr.heap.size,4,none⟩ = some (.slice jo jn jc) ∧ Bel V W) (by kernel_rfl) ⟨x0,x1,x2,x3,h1,Below.drew h2⟩ (fun hH => ?_)
        refine tk1 (i := 0) (d := 32) (v := ?_) rfl rfl ?_ ?_
        rotate_left 1
        ·rintro w ⟨z0,z1,z2,z3,z4,z5⟩
         go_simp
         with_reducible rfl
        try simp only [Act.put,List.setIfInBounds_toArray,List.set_cons_zero,List.set_cons_succ]
        refine wpAnyH_ready (rs := [1]) (by kernel_rfl) (by simp) ?_
        refine AllReadyH.cons rfl (fun K hK => ?_) AllReadyH.nil
        go_simp
        refine (HT.out _ hH).mono ?_
        rintro e w8 ⟨rfl,hG⟩
        clear hH
        refine hK.out _ _ hG (fun hH => ?_)
        clear hK K hG
        try simp only [Act.put,List.setIfInBounds_toArray,List.set_cons_zero,List.set_cons_succ]
        refine tk1 (i := 2) (d := 34) (v := ?_) rfl rfl ?_ ?_
        rotate_left 1
        ·rintro w ⟨z0,z1,z2,z3,z4,z5⟩
         go_simp
         with_reducible rfl
        try simp only [Act.put,List.setIfInBounds_toArray,List.set_cons_zero,List.set_cons_succ]
        refine tk1 (i := 3) (d := 35) (v := ?_) rfl rfl ?_ ?_
        rotate_left 1
        ·rintro w ⟨z0,z1,z2,z3,z4,z5⟩
         go_simp
         with_reducible rfl
        try simp only [Act.put,List.setIfInBounds_toArray,List.set_cons_zero,List.set_cons_succ]
        refine tk1 (i := 4) (d := 36) (v := ?_) rfl rfl ?_ ?_
        rotate_left 1
        ·rintro w ⟨z0,z1,z2,z3,z4,z5⟩
         go_simp
         with_reducible rfl
        try simp only [Act.put,List.setIfInBounds_toArray,List.set_cons_zero,List.set_cons_succ]
        refine wpAnyH_ready (rs := [5]) (by kernel_rfl) (by simp) ?_
        refine AllReadyH.cons rfl (fun K hK => ?_) AllReadyH.nil
        go_simp
        refine (HI.out _ hH).mono ?_
        rintro e w8 ⟨rfl,hG⟩
        clear hH
        refine hK.out _ _ hG (fun hH => ?_)
        clear hK K hG
        try simp only [Act.put,List.setIfInBounds_toArray,List.set_cons_zero,List.set_cons_succ]
        refine tk1 (i := 6) (d := 38) (v := ?_) rfl rfl ?_ ?_
        rotate_left 1
        ·rintro w ⟨z0,z1,z2,z3,z4,z5⟩
         go_simp
         with_reducible rfl
        try simp only [Act.put,List.setIfInBounds_toArray,List.set_cons_zero,List.set_cons_succ]
        refine tk1 (i := 7) (d := 39) (v := ?_) rfl rfl ?_ ?_
        rotate_left 1
        ·rintro w ⟨z0,z1,z2,z3,z4,z5⟩
         go_simp
         with_reducible rfl
        try simp only [Act.put,List.setIfInBounds_toArray,List.set_cons_zero,List.set_cons_succ]
        refine tk1 (i := 8) (d := 40) (v := ?_) rfl rfl ?_ ?_
        rotate_left 1
        ·rintro w ⟨z0,z1,z2,z3,z4,z5⟩
         go_simp
         with_reducible rfl
        try simp only [Act.put,List.setIfInBounds_toArray,List.set_cons_zero,List.set_cons_succ]
        refine tk1 (i := 9) (d := 41) (v := ?_) rfl rfl ?_ ?_
        rotate_left 1
        ·rintro w ⟨z0,z1,z2,z3,z4,z5⟩
         go_simp
         with_reducible rfl
        try simp only [Act.put,List.setIfInBounds_toArray,List.set_cons_zero,List.set_cons_succ]
        refine wpAnyH_ready (rs := [10]) (by kernel_rfl) (by simp) ?_
        refine AllReadyH.cons rfl (fun K hK => ?_) AllReadyH.nil
        go_simp
        refine (HK.out _ hH).mono ?_
        rintro e w8 ⟨rfl,hG⟩
        clear hH
        refine hK.out _ _ hG (fun hH => ?_)
        clear hK K hG
        try simp only [Act.put,List.setIfInBounds_toArray,List.set_cons_zero,List.set_cons_succ]
        refine tk1 (i := 11) (d := 43) (v := ?_) rfl rfl ?_ ?_
        rotate_left 1
        ·rintro w ⟨z0,z1,z2,z3,z4,z5⟩
         go_simp
         with_reducible rfl
        try simp only [Act.put,List.setIfInBounds_toArray,List.set_cons_zero,List.set_cons_succ]
        refine tk1 (i := 12) (d := 44) (v := ?_) rfl rfl ?_ ?_
        rotate_left 1
        ·rintro w ⟨z0,z1,z2,z3,z4,z5⟩
         go_simp
         with_reducible rfl
        try simp only [Act.put,List.setIfInBounds_toArray,List.set_cons_zero,List.set_cons_succ]
        refine tk1 (i := 13) (d := 45) (v := ?_) rfl rfl ?_ ?_
        rotate_left 1
        ·rintro w ⟨z0,z1,z2,z3,z4,z5⟩
         go_simp
         with_reducible rfl
        try simp only [Act.put,List.setIfInBounds_toArray,List.set_cons_zero,List.set_cons_succ]
        refine tk0 (i := 14) (d := 46) rfl rfl ?_
        try simp only [Act.put,List.setIfInBounds_toArray,List.set_cons_zero,List.set_cons_succ]
        refine tk0 (i := 15) (d := 47) rfl rfl ?_
        try simp only [Act.put,List.setIfInBounds_toArray,List.set_cons_zero,List.set_cons_succ]
        refine tk0 (i := 16) (d := 48) rfl rfl ?_
        try simp only [Act.put,List.setIfInBounds_toArray,List.set_cons_zero,List.set_cons_succ]
        refine tk0 (i := 17) (d := 49) rfl rfl ?_
        try simp only [Act.put,List.setIfInBounds_toArray,List.set_cons_zero,List.set_cons_succ]
        refine tk0 (i := 18) (d := 50) rfl rfl ?_
        try simp only [Act.put,List.setIfInBounds_toArray,List.set_cons_zero,List.set_cons_succ]
        refine tk0 (i := 19) (d := 51) rfl rfl ?_
        try simp only [Act.put,List.setIfInBounds_toArray,List.set_cons_zero,List.set_cons_succ]
        refine tk0 (i := 20) (d := 52) rfl rfl ?_
        try simp only [Act.put,List.setIfInBounds_toArray,List.set_cons_zero,List.set_cons_succ]
        refine tk0 (i := 21) (d := 53) rfl rfl ?_
        try simp only [Act.put,List.setIfInBounds_toArray,List.set_cons_zero,List.set_cons_succ]
        refine tk1 (i := 22) (d := 54) (v := ?_) rfl rfl ?_ ?_
        rotate_left 1
        ·rintro w ⟨z0,z1,z2,z3,z4,z5⟩
         go_simp
         with_reducible rfl
        try simp only [Act.put,List.setIfInBounds_toArray,List.set_cons_zero,List.set_cons_succ]
        refine wpAnyH_done (by kernel_rfl) ?_ _
        obtain ⟨a0,a1,a2,a3,a4,a5⟩ := hH
        all_goals
         go_wp2_with fail
         go_ret2
         rw [hz2.out]
         exact ⟨rfl,Bel.trans HBV.out a5⟩
       | true =>
        cases bP with
        | false =>
         have hz2 : Hid (X = none) := Lib.hid (Hndn.out (by rw [hnd]; rfl))
         go_wp2_with fail
         refine wp_region_held_drew (S := fun W => W.cell? ⟨wr.heap.size,0,none⟩ = some (.int .i64 x.k) ∧ W.cell? ⟨wr.heap.size,1,none⟩ = some (.string ⟨x.s.toArray⟩) ∧ W.cell? ⟨wr.heap.size,2,none⟩ = some (.int .i64 x.i) ∧ W.cell? ⟨wr.heap.size,3,none⟩ = some (.slice ko kn kc) ∧ W.cell? ⟨wr.heap.size,4,none⟩ = some (.slice jo jn jc) ∧ Bel V W) (by kernel_rfl) ⟨x0,x1,x2,x3,h1,Below.drew h2⟩ (fun hH => ?_)
         refine tk1 (i := 0) (d := 32) (v := ?_) rfl rfl ?_ ?_
         rotate_left 1
         ·rintro w ⟨z0,z1,z2,z3,z4,z5⟩
          go_simp
          with_reducible rfl
         try simp only [Act.put,List.setIfInBounds_toArray,List.set_cons_zero,List.set_cons_succ]
         refine wpAnyH_ready (rs := [1]) (by kernel_rfl) (by simp) ?_
         refine AllReadyH.cons rfl (fun K hK => ?_) AllReadyH.nil
         go_simp
         refine (HT.out _ hH).mono ?_
         rintro e w8 ⟨rfl,hG⟩
         clear hH
         refine hK.out _ _ hG (fun hH => ?_)
         clear hK K hG
         try simp only [Act.put,List.setIfInBounds_toArray,List.set_cons_zero,List.set_cons_succ]
         refine tk1 (i := 2) (d := 34) (v := ?_) rfl rfl ?_ ?_
         rotate_left 1
         ·rintro w ⟨z0,z1,z2,z3,z4,z5⟩
          go_simp
          with_reducible rfl
         try simp only [Act.put,List.setIfInBounds_toArray,List.set_cons_zero,List.set_cons_succ]
         refine tk1 (i := 3) (d := 35) (v := ?_) rfl rfl ?_ ?_
         rotate_left 1
         ·rintro w ⟨z0,z1,z2,z3,z4,z5⟩
          go_simp
          with_reducible rfl
         try simp only [Act.put,List.setIfInBounds_toArray,List.set_cons_zero,List.set_cons_succ]
         refine tk1 (i := 4) (d := 36) (v := ?_) rfl rfl ?_ ?_
         rotate_left 1
         ·rintro w ⟨z0,z1,z2,z3,z4,z5⟩
          go_simp
          with_reducible rfl
         try simp only [Act.put,List.setIfInBounds_toArray,List.set_cons_zero,List.set_cons_succ]
         refine wpAnyH_ready (rs := [5]) (by kernel_rfl) (by simp) ?_
         refine AllReadyH.cons rfl (fun K hK => ?_) AllReadyH.nil
         go_simp
         refine (HI.out _ hH).mono ?_
         rintro e w8 ⟨rfl,hG⟩
         clear hH
         refine hK.out _ _ hG (fun hH => ?_)
         clear hK K hG
         try simp only [Act.put,List.setIfInBounds_toArray,List.set_cons_zero,List.set_cons_succ]
         refine tk1 (i := 6) (d := 38) (v := ?_) rfl rfl ?_ ?_
         rotate_left 1
         ·rintro w ⟨z0,z1,z2,z3,z4,z5⟩
          go_simp
          with_reducible rfl
         try simp only [Act.put,List.setIfInBounds_toArray,List.set_cons_zero,List.set_cons_succ]
         refine tk1 (i := 7) (d := 39) (v := ?_) rfl rfl ?_ ?_
         rotate_left 1
         ·rintro w ⟨z0,z1,z2,z3,z4,z5⟩
          go_simp
          with_reducible rfl
         try simp only [Act.put,List.setIfInBounds_toArray,List.set_cons_zero,List.set_cons_succ]
         refine tk1 (i := 8) (d := 40) (v := ?_) rfl rfl ?_ ?_
         rotate_left 1
         ·rintro w ⟨z0,z1,z2,z3,z4,z5⟩
          go_simp
          with_reducible rfl
         try simp only [Act.put,List.setIfInBounds_toArray,List.set_cons_zero,List.set_cons_succ]
         refine tk1 (i := 9) (d := 41) (v := ?_) rfl rfl ?_ ?_
         rotate_left 1
         ·rintro w ⟨z0,z1,z2,z3,z4,z5⟩
          go_simp
          with_reducible rfl
         try simp only [Act.put,List.setIfInBounds_toArray,List.set_cons_zero,List.set_cons_succ]
         refine wpAnyH_ready (rs := [10]) (by kernel_rfl) (by simp) ?_
         refine AllReadyH.cons rfl (fun K hK => ?_) AllReadyH.nil
         go_simp
         refine (HK.out _ hH).mono ?_
         rintro e w8 ⟨rfl,hG⟩
         clear hH
         refine hK.out _ _ hG (fun hH => ?_)
         clear hK K hG
         try simp only [Act.put,List.setIfInBounds_toArray,List.set_cons_zero,List.set_cons_succ]
         refine tk1 (i := 11) (d := 43) (v := ?_) rfl rfl ?_ ?_
         rotate_left 1
         ·rintro w ⟨z0,z1,z2,z3,z4,z5⟩
          go_simp
          with_reducible rfl
         try simp only [Act.put,List.setIfInBounds_toArray,List.set_cons_zero,List.set_cons_succ]
         refine tk1 (i := 12) (d := 44) (v := ?_) rfl rfl ?_ ?_
         rotate_left 1
         ·rintro w ⟨z0,z1,z2,z3,z4,z5⟩
          go_simp
          with_reducible rfl
         try simp only [Act.put,List.setIfInBounds_toArray,List.set_cons_zero,List.set_cons_succ]
         refine tk1 (i := 13) (d := 45) (v := ?_) rfl rfl ?_ ?_
         rotate_left 1
         ·rintro w ⟨z0,z1,z2,z3,z4,z5⟩
          go_simp
          with_reducible rfl
         try simp only [Act.put,List.setIfInBounds_toArray,List.set_cons_zero,List.set_cons_succ]
         refine tk1 (i := 14) (d := 46) (v := ?_) rfl rfl ?_ ?_
         rotate_left 1
         ·rintro w ⟨z0,z1,z2,z3,z4,z5⟩
          go_simp
          with_reducible rfl
         try simp only [Act.put,List.setIfInBounds_toArray,List.set_cons_zero,List.set_cons_succ]
         refine tk1 (i := 15) (d := 47) (v := ?_) rfl rfl ?_ ?_
         rotate_left 1
         ·rintro w ⟨z0,z1,z2,z3,z4,z5⟩
          go_simp
          with_reducible rfl
         try simp only [Act.put,List.setIfInBounds_toArray,List.set_cons_zero,List.set_cons_succ]
         refine tk1 (i := 16) (d := 48) (v := ?_) rfl rfl ?_ ?_
         rotate_left 1
         ·rintro w ⟨z0,z1,z2,z3,z4,z5⟩
          go_simp
          with_reducible rfl
         try simp only [Act.put,List.setIfInBounds_toArray,List.set_cons_zero,List.set_cons_succ]
         refine tk1 (i := 17) (d := 49) (v := ?_) rfl rfl ?_ ?_
         rotate_left 1
         ·rintro w ⟨z0,z1,z2,z3,z4,z5⟩
          go_simp
          with_reducible rfl
         try simp only [Act.put,List.setIfInBounds_toArray,List.set_cons_zero,List.set_cons_succ]
         refine tk1 (i := 18) (d := 50) (v := ?_) rfl rfl ?_ ?_
         rotate_left 1
         ·rintro w ⟨z0,z1,z2,z3,z4,z5⟩
          go_simp
          with_reducible rfl
         try simp only [Act.put,List.setIfInBounds_toArray,List.set_cons_zero,List.set_cons_succ]
         refine wpAnyH_ready (rs := [19]) (by kernel_rfl) (by simp) ?_
         refine AllReadyH.cons rfl (fun K hK => ?_) AllReadyH.nil
         go_simp
         refine (HR.out _ hH).mono ?_
         rintro e w8 ⟨⟨ro,rfl,hRo⟩,hG⟩
         clear hH
         refine hK.out _ _ hG (fun hH => ?_)
         clear hK K hG
         try simp only [Act.put,List.setIfInBounds_toArray,List.set_cons_zero,List.set_cons_succ]
         refine wpAnyH_ready (rs := [20]) (by kernel_rfl) (by simp) ?_
         refine AllReadyH.cons rfl (fun K hK => ?_) AllReadyH.nil
         go_simp
         refine (HP.out ro _ hRo hH).mono ?_
         rintro e w8 ⟨rfl,hG⟩
         clear hH
         refine hK.out _ _ hG (fun hH => ?_)
         clear hK K hG
         try simp only [Act.put,List.setIfInBounds_toArray,List.set_cons_zero,List.set_cons_succ]
         refine tk1 (i := 21) (d := 53) (v := ?_) rfl rfl ?_ ?_
         rotate_left 1
         ·rintro w ⟨z0,z1,z2,z3,z4,z5⟩
          go_simp
          with_reducible rfl
         try simp only [Act.put,List.setIfInBounds_toArray,List.set_cons_zero,List.set_cons_succ]
         refine tk1 (i := 22) (d := 54) (v := ?_) rfl rfl ?_ ?_
         rotate_left 1
         ·rintro w ⟨z0,z1,z2,z3,z4,z5⟩
          go_simp
          with_reducible rfl
         try simp only [Act.put,List.setIfInBounds_toArray,List.set_cons_zero,List.set_cons_succ]
         refine wpAnyH_done (by kernel_rfl) ?_ _
         obtain ⟨a0,a1,a2,a3,a4,a5⟩ := hH
         all_goals
          go_wp2_with fail
          go_ret2
          rw [hz2.out]
          exact ⟨rfl,Bel.trans HBV.out a5⟩
        | true =>
         have hM2 := Lib.hid (Hgo.out (by rw [hnd]; rfl))
         go_wp2_with fail
         refine wp_region_held_drew (S := fun W => W.cell? ⟨wr.heap.size,0,none⟩ = some (.int .i64 x.k) ∧ W.cell? ⟨wr.heap.size,1,none⟩ = some (.string ⟨x.s.toArray⟩) ∧ W.cell? ⟨wr.heap.size,2,none⟩ = some (.int .i64 x.i) ∧ W.cell? ⟨wr.heap.size,3,none⟩ = some (.slice ko kn kc) ∧ W.cell? ⟨wr.heap.size,4,none⟩ = some (.slice jo jn jc) ∧ Bel V W) (by kernel_rfl) ⟨x0,x1,x2,x3,h1,Below.drew h2⟩ (fun hH => ?_)
         refine tk1 (i := 0) (d := 32) (v := ?_) rfl rfl ?_ ?_
         rotate_left 1
         ·rintro w ⟨z0,z1,z2,z3,z4,z5⟩
          go_simp
          with_reducible rfl
         try simp only [Act.put,List.setIfInBounds_toArray,List.set_cons_zero,List.set_cons_succ]
         refine wpAnyH_ready (rs := [1]) (by kernel_rfl) (by simp) ?_
         refine AllReadyH.cons rfl (fun K hK => ?_) AllReadyH.nil
         go_simp
         refine (HT.out _ hH).mono ?_
         rintro e w8 ⟨rfl,hG⟩
         clear hH
         refine hK.out _ _ hG (fun hH => ?_)
         clear hK K hG
         try simp only [Act.put,List.setIfInBounds_toArray,List.set_cons_zero,List.set_cons_succ]
         refine tk1 (i := 2) (d := 34) (v := ?_) rfl rfl ?_ ?_
         rotate_left 1
         ·rintro w ⟨z0,z1,z2,z3,z4,z5⟩
          go_simp
          with_reducible rfl
         try simp only [Act.put,List.setIfInBounds_toArray,List.set_cons_zero,List.set_cons_succ]
         refine tk1 (i := 3) (d := 35) (v := ?_) rfl rfl ?_ ?_
         rotate_left 1
         ·rintro w ⟨z0,z1,z2,z3,z4,z5⟩
          go_simp
          with_reducible rfl
         try simp only [Act.put,List.setIfInBounds_toArray,List.set_cons_zero,List.set_cons_succ]
         refine tk1 (i := 4) (d := 36) (v := ?_) rfl rfl ?_ ?_
         rotate_left 1
         ·rintro w ⟨z0,z1,z2,z3,z4,z5⟩
          go_simp
          with_reducible rfl
         try simp only [Act.put,List.setIfInBounds_toArray,List.set_cons_zero,List.set_cons_succ]
         refine wpAnyH_ready (rs := [5]) (by kernel_rfl) (by simp) ?_
         refine AllReadyH.cons rfl (fun K hK => ?_) AllReadyH.nil
         go_simp
         refine (HI.out _ hH).mono ?_
         rintro e w8 ⟨rfl,hG⟩
         clear hH
         refine hK.out _ _ hG (fun hH => ?_)
         clear hK K hG
         try simp only [Act.put,List.setIfInBounds_toArray,List.set_cons_zero,List.set_cons_succ]
         refine tk1 (i := 6) (d := 38) (v := ?_) rfl rfl ?_ ?_
         rotate_left 1
         ·rintro w ⟨z0,z1,z2,z3,z4,z5⟩
          go_simp
          with_reducible rfl
         try simp only [Act.put,List.setIfInBounds_toArray,List.set_cons_zero,List.set_cons_succ]
         refine tk1 (i := 7) (d := 39) (v := ?_) rfl rfl ?_ ?_
         rotate_left 1
         ·rintro w ⟨z0,z1,z2,z3,z4,z5⟩
          go_simp
          with_reducible rfl
         try simp only [Act.put,List.setIfInBounds_toArray,List.set_cons_zero,List.set_cons_succ]
         refine tk1 (i := 8) (d := 40) (v := ?_) rfl rfl ?_ ?_
         rotate_left 1
         ·rintro w ⟨z0,z1,z2,z3,z4,z5⟩
          go_simp
          with_reducible rfl
         try simp only [Act.put,List.setIfInBounds_toArray,List.set_cons_zero,List.set_cons_succ]
         refine tk1 (i := 9) (d := 41) (v := ?_) rfl rfl ?_ ?_
         rotate_left 1
         ·rintro w ⟨z0,z1,z2,z3,z4,z5⟩
          go_simp
          with_reducible rfl
         try simp only [Act.put,List.setIfInBounds_toArray,List.set_cons_zero,List.set_cons_succ]
         refine wpAnyH_ready (rs := [10]) (by kernel_rfl) (by simp) ?_
         refine AllReadyH.cons rfl (fun K hK => ?_) AllReadyH.nil
         go_simp
         refine (HK.out _ hH).mono ?_
         rintro e w8 ⟨rfl,hG⟩
         clear hH
         refine hK.out _ _ hG (fun hH => ?_)
         clear hK K hG
         try simp only [Act.put,List.setIfInBounds_toArray,List.set_cons_zero,List.set_cons_succ]
         refine tk1 (i := 11) (d := 43) (v := ?_) rfl rfl ?_ ?_
         rotate_left 1
         ·rintro w ⟨z0,z1,z2,z3,z4,z5⟩
          go_simp
          with_reducible rfl
         try simp only [Act.put,List.setIfInBounds_toArray,List.set_cons_zero,List.set_cons_succ]
         refine tk1 (i := 12) (d := 44) (v := ?_) rfl rfl ?_ ?_
         rotate_left 1
         ·rintro w ⟨z0,z1,z2,z3,z4,z5⟩
          go_simp
          with_reducible rfl
         try simp only [Act.put,List.setIfInBounds_toArray,List.set_cons_zero,List.set_cons_succ]
         refine tk1 (i := 13) (d := 45) (v := ?_) rfl rfl ?_ ?_
         rotate_left 1
         ·rintro w ⟨z0,z1,z2,z3,z4,z5⟩
          go_simp
          with_reducible rfl
         try simp only [Act.put,List.setIfInBounds_toArray,List.set_cons_zero,List.set_cons_succ]
         refine tk1 (i := 14) (d := 46) (v := ?_) rfl rfl ?_ ?_
         rotate_left 1
         ·rintro w ⟨z0,z1,z2,z3,z4,z5⟩
          go_simp
          with_reducible rfl
         try simp only [Act.put,List.setIfInBounds_toArray,List.set_cons_zero,List.set_cons_succ]
         refine tk1 (i := 15) (d := 47) (v := ?_) rfl rfl ?_ ?_
         rotate_left 1
         ·rintro w ⟨z0,z1,z2,z3,z4,z5⟩
          go_simp
          with_reducible rfl
         try simp only [Act.put,List.setIfInBounds_toArray,List.set_cons_zero,List.set_cons_succ]
         refine tk1 (i := 16) (d := 48) (v := ?_) rfl rfl ?_ ?_
         rotate_left 1
         ·rintro w ⟨z0,z1,z2,z3,z4,z5⟩
          go_simp
          with_reducible rfl
         try simp only [Act.put,List.setIfInBounds_toArray,List.set_cons_zero,List.set_cons_succ]
         refine tk1 (i := 17) (d := 49) (v := ?_) rfl rfl ?_ ?_
         rotate_left 1
         ·rintro w ⟨z0,z1,z2,z3,z4,z5⟩
          go_simp
          with_reducible rfl
         try simp only [Act.put,List.setIfInBounds_toArray,List.set_cons_zero,List.set_cons_succ]
         refine tk1 (i := 18) (d := 50) (v := ?_) rfl rfl ?_ ?_
         rotate_left 1
         ·rintro w ⟨z0,z1,z2,z3,z4,z5⟩
          go_simp
          with_reducible rfl
         try simp only [Act.put,List.setIfInBounds_toArray,List.set_cons_zero,List.set_cons_succ]
         refine wpAnyH_ready (rs := [19]) (by kernel_rfl) (by simp) ?_
         refine AllReadyH.cons rfl (fun K hK => ?_) AllReadyH.nil
         go_simp
         refine (HR.out _ hH).mono ?_
         rintro e w8 ⟨⟨ro,rfl,hRo⟩,hG⟩
         clear hH
         refine hK.out _ _ hG (fun hH => ?_)
         clear hK K hG
         try simp only [Act.put,List.setIfInBounds_toArray,List.set_cons_zero,List.set_cons_succ]
         refine wpAnyH_ready (rs := [20]) (by kernel_rfl) (by simp) ?_
         refine AllReadyH.cons rfl (fun K hK => ?_) AllReadyH.nil
         go_simp
         refine (HP.out ro _ hRo hH).mono ?_
         rintro e w8 ⟨rfl,hG⟩
         clear hH
         refine hK.out _ _ hG (fun hH => ?_)
         clear hK K hG
         try simp only [Act.put,List.setIfInBounds_toArray,List.set_cons_zero,List.set_cons_succ]
         refine tk1 (i := 21) (d := 53) (v := ?_) rfl rfl ?_ ?_
         rotate_left 1
         ·rintro w ⟨z0,z1,z2,z3,z4,z5⟩
          go_simp
          with_reducible rfl
         try simp only [Act.put,List.setIfInBounds_toArray,List.set_cons_zero,List.set_cons_succ]
         refine tk1 (i := 22) (d := 54) (v := ?_) rfl rfl ?_ ?_
         rotate_left 1
         ·rintro w ⟨z0,z1,z2,z3,z4,z5⟩
          go_simp
          with_reducible rfl
         try simp only [Act.put,List.setIfInBounds_toArray,List.set_cons_zero,List.set_cons_succ]
         refine wpAnyH_done (by kernel_rfl) ?_ _
         obtain ⟨a0,a1,a2,a3,a4,a5⟩ := hH
         have B8 := Lib.hid (Bel.trans HBV.out a5)
         have hownV := own_take (own_belz (own_belz Hown2.out BV) a5) hfm
         have htk : (encZ op).take (f * 1) = encZ (op.take f) := by unfold encZ; rw [List.map_take,Nat.mul_one]
         rw [htk] at hownV
         have hcutu := fun W => cut_upto (own_belz Hown2.out BV) f hfm W
         have Hown3 := Lib.hid (own_belz hownV (Bel.alloc (Bel.refl w8) (.cells #[.int .i64 (i : Int)] 3)))
         have Hb3 := Lib.hid (Bel.alloc (Bel.trans HBV.out a5) (.cells #[.int .i64 (i : Int)] 3))
         have hnw : Hid (∀ j u,[Value.int .i64 (i : Int)][j]? = some u → (w8.alloc (.cells #[.int .i64 (i : Int)] 3)).cell? ((⟨w8.heap.size,0,none⟩ : Addr).add j) = some u) := Lib.hid (World.news_of_block (cs := #[.int .i64 (i : Int)]) (t := 3) (fr := (0,0)) (heap_new w8 _))
         have hf1 : f + 1 ≤ 1099511627776 := by omega
         clear a0 a1 a2 a3 a4 a5 x0 x1 x2 x3 h1 h2 hownV htk
         go_wp2_with (at_builtin; refine list_appZ _ _ rfl rfl rfl rfl rfl Hb3.out Hown3.out hnw.out hf1 ?_; intro o9 c9 w9 g9 k9; refine Hid.out ?_)
         refine Lib.hid ?_
         go_wp2_with fail
         go_round
         case rel => exact ⟨i + 1,f + 1,c9,o9,op.take f ++ [(i : Int)],rfl,by go_num,by omega,by omega,Lib.hid (by rw [List.length_append,List.length_singleton,List.length_take,Hlen.out]; omega),k9,g9,hM2,Lib.hid (fun z hz => by
           rcases List.mem_append.1 hz with q | q
           ·have := Hz.out z (List.mem_of_mem_take q); omega
           ·rw [List.mem_singleton.1 q]; omega)⟩
         case measure => simp [intOf]; omega
  ·have hz2 : Hid (X = some op) := Lib.hid (by
    have := HM.out
    rw [List.drop_eq_nil_of_le (by rw [HLn.out]; exact hin),rts] at this
    exact this.symm)
   obtain rfl : i = n := by omega
   have hR := (own_zarg Hown.out).rarg
   have hlen := Hlen.out
   subst hlen
   go_wp2_with fail
   go_ret2
   rw [hz2.out]
   exact ⟨⟨p,c,rfl,hR⟩,HB.out⟩
end Syn
end Go.Proofs.YtcapkeaedpabjaaGreatDoor
