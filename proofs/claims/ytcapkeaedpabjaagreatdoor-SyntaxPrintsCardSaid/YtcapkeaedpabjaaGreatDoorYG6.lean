/-
  Layer 8, texts merged: SchY, SchZ. For every argument within the bounds that each theorem names.
-/
import Derived.Test.YtcapkeaedpabjaaGreatDoorYG5
set_option maxRecDepth 100000
set_option maxHeartbeats 16000000

/-
 Layer 8: list at a map's values and keys, as the program has it, on top of what expression says.
-/
namespace Go.Proofs.YtcapkeaedpabjaaGreatDoor
open Go.RowKit Go.ChangeShapes Go.WideShapes
namespace Syn

def keyT (s : Txt) : Txt := Lex.txtT ⟨4,s,0,0⟩
def zipK (keys : List Txt) (X : List Txt) : List Txt := List.zipWith (fun s x => keyT s ++ ([58,32] ++ x)) keys X
theorem keyT_len (s : Txt) : (keyT s).length ≤ 402 := by
 unfold keyT Lex.txtT
 split
 ·rename_i h
  exact (Lex.ok_len h).2
 ·exact Nat.zero_le _
theorem listM_any (no : Option Addr) (n nc : Nat) (s : Txt) (i : Int) (ko jo : Option Addr) (kc m jc : Nat) (hm : m ≤ 100000) (kids : List Int) (keys X : List Txt) (hX : X.length = m) (hXl : ∀ x ∈ X,x.length ≤ 1000000000) (w : World) (hML : Lex.ML w) (hZ : ZArg w jo m kids) (hKs : SArg w ko m keys)
  (hb : ∀ j (h : j < kids.length) (h' : j < X.length) W,Bel w W → Calls Tryz.prog 152 #[.slice no n nc,.int .i64 kids[j],.int .i64 1] W fun e w' => e = .returned (.string ⟨X[j].toArray⟩) ∧ Bel W w')
  (hlen : (Lib.join (zipK keys X) [44,32]).length ≤ 140737488355328) :
  Calls Tryz.prog 244 #[.slice no n nc,.agg #[.int .i64 7,.string ⟨s.toArray⟩,.int .i64 i,.slice ko m kc,.slice jo m jc]] w fun e w' => e = .returned (.string ⟨(Lib.join (zipK keys X) [44,32]).toArray⟩) ∧ Bel w w' := by
 obtain ⟨V,hV⟩ : ∃ V,w.alloc (.cells #[.int .i64 7,.string ⟨s.toArray⟩,.int .i64 i,.slice ko m kc,.slice jo m jc] 65) = V := ⟨_,rfl⟩
 have BV : Bel w V := by rw [← hV]; exact Bel.alloc (Bel.refl w) _
 obtain ⟨y0,y1,y2,y3,y4⟩ : V.cell? ⟨w.heap.size,0,none⟩ = some (.int .i64 7) ∧ V.cell? ⟨w.heap.size,1,none⟩ = some (.string ⟨s.toArray⟩) ∧ V.cell? ⟨w.heap.size,2,none⟩ = some (.int .i64 i) ∧ V.cell? ⟨w.heap.size,3,none⟩ = some (.slice ko m kc) ∧ V.cell? ⟨w.heap.size,4,none⟩ = some (.slice jo m jc) := by rw [← hV]; exact box5 w _ _ _ _ _ _
 have hmk := fun W => run_make_row' (P := Tryz.prog) 44 9 (.string ByteArray.empty) 16 Tryz.underlying44 Lex.info_str rfl .i64 .i64 m (by omega) (by omega) W
 obtain ⟨W0,hW0⟩ : ∃ W0,V.alloc (.cells (madeCells #[.string ByteArray.empty] m) 9) = W0 := ⟨_,rfl⟩
 have B0 : Bel V W0 := by rw [← hW0]; exact Bel.alloc (Bel.refl V) _
 have R0 : W0.rowIs V.heap.size 9 m (Lex.fil []) := by rw [← hW0]; exact (World.rowIs_made V (.string ByteArray.empty) m 9).congr fun i _ => rfl
 have hz0 : V.heap.size < W0.heap.size := by rw [← hW0]; exact alloc_lt _ _
 have HY0 := Lib.hid y0
 have HY3 := Lib.hid y3
 have y4 := B0.cell' y4
 have HB0 := Lib.hid B0
 have HR0 := Lib.hid R0
 have HZ0 := Lib.hid hz0
 have HBV := Lib.hid BV
 have HZ := Lib.hid hZ
 have HKs := Lib.hid hKs
 have HE := Lib.hid hb
 have HX := Lib.hid hX
 have HXl := Lib.hid hXl
 have HK := Lib.hid hZ.1
 have HKk := Lib.hid hKs.1
 have HM := Lib.hid hML
 have HLn := Lib.hid hlen
 have HVn := Lib.hid (show ¬ V.heap.size = w.heap.size by have : w.heap.size < V.heap.size := cell_lt' y0; omega)
 clear hX hXl hZ hKs hb hlen B0 R0 hz0 BV y1 y2 hML y0 y3
 go_enter Tryz.func244,Tryz.ntmps244
 go_wp2_with fail
 clear hV hW0
 go_loopw [15] (fun iv wr => ∃ (q : Nat) (D : List ByteArray),iv = .int .i64 (q : Int) ∧ q ≤ m ∧ Hid (D.length = q) ∧ Hid (D.map ByteArray.toList = (zipK keys X).take q) ∧ Hid (wr.rowIs V.heap.size 9 m (Lex.fil D)) ∧ Hid (V.heap.size < wr.heap.size) ∧ Hid (Bel V wr)) (fun iv _ => m - (intOf iv).toNat)
 case atStart => exact ⟨0,[],rfl,Nat.zero_le _,Lib.hid rfl,Lib.hid rfl,HR0,HZ0,HB0⟩
 case round =>
  obtain ⟨q,D,rfl,hq,hD,hMap,hRow,hsz,hB⟩ := hrel
  rename World => wr
  clear HR0 HZ0 hmk
  by_cases hqm : q < m
  ·obtain ⟨b,off,rfl,hc⟩ := za_addr HZ.out (by omega)
   obtain ⟨b2,off2,rfl,hc2⟩ := HKs.out.2 (by omega)
   have hql : q < kids.length := by rw [HK.out]; exact hqm
   have hqx : q < X.length := by rw [HX.out]; exact hqm
   have hqk : q < keys.length := by rw [HKk.out]; exact hqm
   have hqz : q < (zipK keys X).length := by unfold zipK; rw [List.length_zipWith]; omega
   have c0 := hB.out.cell' (HBV.out.cell' (hc q hql))
   have Hd0 := Lib.hid (HBV.out.cell' (hc2 q hqk))
   have hb2 : ¬ V.heap.size = b2 := by have q1 : b2 < w.heap.size := cell_lt' (hc2 q hqk); have q2 : w.heap.size < V.heap.size := cell_lt' HY0.out; omega
   have HC := Lib.hid (HE.out q hql hqx wr (Bel.trans HBV.out hB.out))
   have hXq := HXl.out X[q] (List.getElem_mem hqx)
   have hTq := keyT_len keys[q]
   have hzq : (zipK keys X)[q] = keyT keys[q] ++ ([58,32] ++ X[q]) := List.getElem_zipWith
   have HS := Lib.hid (fun W (B : Bel w W) => strT_any keys[q] W (HM.out.on B))
   rw [show Lex.txtT ⟨4,keys[q],0,0⟩ = keyT keys[q] from rfl] at HS
   obtain ⟨x,hx⟩ : ∃ x : ByteArray,⟨X[q].toArray⟩ = x := ⟨_,rfl⟩
   obtain ⟨T,hT⟩ : ∃ T : ByteArray,⟨(keyT keys[q]).toArray⟩ = T := ⟨_,rfl⟩
   have hxs : x.size = X[q].length := by rw [← hx,← Lex.toL_len,tlB]
   have hTs : T.size = (keyT keys[q]).length := by rw [← hT,← Lex.toL_len,tlB]
   have h1 : (9223372036854775807 < T.size + 2) = False := eq_false (by omega)
   have h2 : (9223372036854775807 < T.size + 2 + x.size) = False := eq_false (by omega)
   have hMap2 : Hid ((D ++ [T ++ (⟨#[58,32]⟩ : ByteArray) ++ x]).map ByteArray.toList = (zipK keys X).take (q + 1)) := Lib.hid (by
    rw [List.map_append,hMap.out,List.map_singleton,List.take_succ_eq_append_getElem hqz]
    congr 2
    rw [hzq,← hx,← hT]
    simp [Go.ByteArray.toList_eq])
   rw [hx] at HC
   rw [hT] at HS
   generalize kids[q] = z at *
   generalize keys[q] = kq at *
   clear hc hc2 hql hqx hMap hqk hqz hXq hTq hzq hx hT hxs hTs
   go_wp2_with fail
   refine HC.out.mono ?_
   rintro e w2 ⟨rfl,g2⟩
   have hRow2 := Lib.hid (Lex.row_on hRow.out hsz.out g2)
   have G2 := Lib.hid (Bel.trans hB.out g2)
   have hsz2 : Hid (V.heap.size < w2.heap.size) := Lib.hid (Nat.lt_of_lt_of_le hsz.out g2.size)
   have hcell := hRow2.out.cell (i := q) hqm
   have hfree := hRow2.out.frozen q
   obtain ⟨W3,hW3⟩ : ∃ W3,w2.setCell ⟨V.heap.size,q,none⟩ (.string x) = W3 := ⟨_,rfl⟩
   have B3 := Lib.hid (show Bel V W3 by rw [← hW3]; exact G2.out.setCell (Nat.le_refl _) _)
   have R3 : Hid (W3.rowIs V.heap.size 9 m (Lex.fil (D ++ [x]))) := Lib.hid (by rw [← hW3]; exact Lex.fil_step hRow2.out hD.out)
   have hsz3 : Hid (V.heap.size < W3.heap.size) := Lib.hid (by rw [← hW3,show (w2.setCell ⟨V.heap.size,q,none⟩ (.string x)).heap.size = w2.heap.size by simp [World.setCell]]; exact hsz2.out)
   have z0 := B3.out.cell' HY0.out
   have z3 := B3.out.cell' HY3.out
   have d3 := B3.out.cell' Hd0.out
   have x3 : W3.cell? ⟨V.heap.size,q,none⟩ = some (.string x) := by rw [← hW3]; exact World.cell?_setCell_same w2 ⟨V.heap.size,q,none⟩ _ hcell
   have HS3 := Lib.hid (HS.out W3.drew (Below.drew (Bel.trans HBV.out B3.out)))
   clear g2 HC hRow hB hsz HS
   go_wp2_with fail
   go_region_with (go_at_call 266; (with_reducible refine (HS3.out).mono ?_); rintro e w4 ⟨rfl,g4⟩; have g5 : Bel W3 w4 := Bel.trans (Below.drew (Bel.refl _)) g4; have R4 := Lex.row_on R3.out hsz3.out g5; have x4 := g5.cell' x3; have f4 := R4.frozen q; have G5 := Lib.hid g5; have R5 := Lib.hid R4; clear g4 g5 R4)
   all_goals
    have hcell5 := R5.out.cell (i := q) hqm
    go_wp2_with fail
    go_round
    case rel => exact ⟨q + 1,D ++ [T ++ (⟨#[58,32]⟩ : ByteArray) ++ x],by go_num,by omega,Lib.hid (by rw [List.length_append,hD.out]; rfl),hMap2,Lib.hid (fil_again R5.out hD.out),Lib.hid (by rw [show ∀ u : Value,(w4.setCell ⟨V.heap.size,q,none⟩ u).heap.size = w4.heap.size from fun u => by simp [World.setCell]]; exact Nat.lt_of_lt_of_le hsz3.out G5.out.size),Lib.hid ((Bel.trans B3.out G5.out).setCell (Nat.le_refl _) _)⟩
    case measure => simp [intOf]; omega
  ·obtain rfl : q = m := by omega
   have hmap : D.map (·.data.toList) = zipK keys X := by have := hMap.out; rw [List.take_of_length_le (by unfold zipK; rw [List.length_zipWith,HX.out,HKk.out]; omega)] at this; rw [← this]; exact List.map_congr_left fun x _ => (Lex.toL x).symm
   have HJ := Lib.hid (fun W hc hb => Tryz.strings_Join V.heap.size 0 q D ⟨#[44,32]⟩ W hc hb (by rw [hD.out]; omega) (by rw [hD.out]; omega) (by rw [hmap,show (⟨#[44,32]⟩ : ByteArray).data.toList = [44,32] from rfl]; exact HLn.out))
   rw [hmap,show (⟨#[44,32]⟩ : ByteArray).data.toList = [44,32] from rfl,hD.out] at HJ
   have hcl : Hid (∀ (j : Nat) x,D[j]? = some x → wr.cell? ⟨V.heap.size,0 + j,none⟩ = some (.string x)) := Lib.hid (fun j x hj => by
    have hlt : j < D.length := by
     rcases Nat.lt_or_ge j D.length with g | g
     ·exact g
     ·rw [List.getElem?_eq_none g] at hj; cases hj
    rw [Nat.zero_add,hRow.out.cell (i := j) (by rw [hD.out] at hlt; exact hlt)]
    simp [Lex.fil,List.getD,hj])
   clear hmap hMap
   go_wp2_with fail
   refine (HJ.out _ hcl.out hsz.out).mono ?_
   rintro e w2 ⟨rfl,g2⟩
   have G2 := Lib.hid (Bel.trans HBV.out (Bel.trans hB.out g2))
   clear g2 HJ hcl hB
   go_wp2_with fail
   go_ret
   exact ⟨rfl,G2.out⟩

theorem bareSq_any (no : Option Addr) (n nc : Nat) (s : Txt) (i : Int) (ko jo : Option Addr) (kn kc jn jc : Nat) (X : Txt) (hX : X.length ≤ 1000000000) (w : World)
  (hl : ∀ W,Bel w W → Calls Tryz.prog 244 #[.slice no n nc,.agg #[.int .i64 6,.string ⟨s.toArray⟩,.int .i64 i,.slice ko kn kc,.slice jo jn jc]] W fun e w' => e = .returned (.string ⟨X.toArray⟩) ∧ Bel W w') :
  Calls Tryz.prog 202 #[.slice no n nc,.agg #[.int .i64 6,.string ⟨s.toArray⟩,.int .i64 i,.slice ko kn kc,.slice jo jn jc]] w fun e w' => e = .returned (.string ⟨(91 :: (X ++ [93])).toArray⟩) ∧ Bel w w' := by
 obtain ⟨V,hV⟩ : ∃ V,w.alloc (.cells #[.int .i64 6,.string ⟨s.toArray⟩,.int .i64 i,.slice ko kn kc,.slice jo jn jc] 65) = V := ⟨_,rfl⟩
 have BV : Bel w V := by rw [← hV]; exact Bel.alloc (Bel.refl w) _
 obtain ⟨y0,y1,y2,y3,y4⟩ : V.cell? ⟨w.heap.size,0,none⟩ = some (.int .i64 6) ∧ V.cell? ⟨w.heap.size,1,none⟩ = some (.string ⟨s.toArray⟩) ∧ V.cell? ⟨w.heap.size,2,none⟩ = some (.int .i64 i) ∧ V.cell? ⟨w.heap.size,3,none⟩ = some (.slice ko kn kc) ∧ V.cell? ⟨w.heap.size,4,none⟩ = some (.slice jo jn jc) := by rw [← hV]; exact box5 w _ _ _ _ _ _
 have HB := Lib.hid BV
 have HL := Lib.hid (hl V BV)
 have h1 : (9223372036854775807 < 1 + X.length) = False := eq_false (by omega)
 have h2 : (9223372036854775807 < 1 + X.length + 1) = False := eq_false (by omega)
 clear hl BV hX
 go_enter Tryz.func202,Tryz.ntmps202
 go_wp2_with fail
 refine HL.out.mono ?_
 rintro e w2 ⟨rfl,g⟩
 have G := Lib.hid (Bel.trans HB.out g)
 clear g
 go_wp2_with fail
 go_ret
 exact ⟨by simp [ByteArray.ext_iff],G.out⟩
theorem bareCu_any (no : Option Addr) (n nc : Nat) (s : Txt) (i : Int) (ko jo : Option Addr) (kn kc jn jc : Nat) (X : Txt) (hX : X.length ≤ 1000000000) (w : World)
  (hl : ∀ W,Bel w W → Calls Tryz.prog 244 #[.slice no n nc,.agg #[.int .i64 7,.string ⟨s.toArray⟩,.int .i64 i,.slice ko kn kc,.slice jo jn jc]] W fun e w' => e = .returned (.string ⟨X.toArray⟩) ∧ Bel W w') :
  Calls Tryz.prog 202 #[.slice no n nc,.agg #[.int .i64 7,.string ⟨s.toArray⟩,.int .i64 i,.slice ko kn kc,.slice jo jn jc]] w fun e w' => e = .returned (.string ⟨(123 :: (X ++ [125])).toArray⟩) ∧ Bel w w' := by
 obtain ⟨V,hV⟩ : ∃ V,w.alloc (.cells #[.int .i64 7,.string ⟨s.toArray⟩,.int .i64 i,.slice ko kn kc,.slice jo jn jc] 65) = V := ⟨_,rfl⟩
 have BV : Bel w V := by rw [← hV]; exact Bel.alloc (Bel.refl w) _
 obtain ⟨y0,y1,y2,y3,y4⟩ : V.cell? ⟨w.heap.size,0,none⟩ = some (.int .i64 7) ∧ V.cell? ⟨w.heap.size,1,none⟩ = some (.string ⟨s.toArray⟩) ∧ V.cell? ⟨w.heap.size,2,none⟩ = some (.int .i64 i) ∧ V.cell? ⟨w.heap.size,3,none⟩ = some (.slice ko kn kc) ∧ V.cell? ⟨w.heap.size,4,none⟩ = some (.slice jo jn jc) := by rw [← hV]; exact box5 w _ _ _ _ _ _
 have HB := Lib.hid BV
 have HL := Lib.hid (hl V BV)
 have h1 : (9223372036854775807 < 1 + X.length) = False := eq_false (by omega)
 have h2 : (9223372036854775807 < 1 + X.length + 1) = False := eq_false (by omega)
 clear hl BV hX
 go_enter Tryz.func202,Tryz.ntmps202
 go_wp2_with fail
 refine HL.out.mono ?_
 rintro e w2 ⟨rfl,g⟩
 have G := Lib.hid (Bel.trans HB.out g)
 clear g
 go_wp2_with fail
 go_ret
 exact ⟨by simp [ByteArray.ext_iff],G.out⟩
theorem bareCall_any (no : Option Addr) (n nc : Nat) (s : Txt) (hs : s.length ≤ 1000000000) (i : Int) (ko jo : Option Addr) (kn kc jn jc : Nat) (X : Txt) (hX : X.length ≤ 1000000000) (w : World)
  (hl : ∀ W,Bel w W → Calls Tryz.prog 244 #[.slice no n nc,.agg #[.int .i64 11,.string ⟨s.toArray⟩,.int .i64 i,.slice ko kn kc,.slice jo jn jc]] W fun e w' => e = .returned (.string ⟨X.toArray⟩) ∧ Bel W w') :
  Calls Tryz.prog 202 #[.slice no n nc,.agg #[.int .i64 11,.string ⟨s.toArray⟩,.int .i64 i,.slice ko kn kc,.slice jo jn jc]] w fun e w' => e = .returned (.string ⟨(s ++ 40 :: (X ++ [41])).toArray⟩) ∧ Bel w w' := by
 obtain ⟨V,hV⟩ : ∃ V,w.alloc (.cells #[.int .i64 11,.string ⟨s.toArray⟩,.int .i64 i,.slice ko kn kc,.slice jo jn jc] 65) = V := ⟨_,rfl⟩
 have BV : Bel w V := by rw [← hV]; exact Bel.alloc (Bel.refl w) _
 obtain ⟨y0,y1,y2,y3,y4⟩ : V.cell? ⟨w.heap.size,0,none⟩ = some (.int .i64 11) ∧ V.cell? ⟨w.heap.size,1,none⟩ = some (.string ⟨s.toArray⟩) ∧ V.cell? ⟨w.heap.size,2,none⟩ = some (.int .i64 i) ∧ V.cell? ⟨w.heap.size,3,none⟩ = some (.slice ko kn kc) ∧ V.cell? ⟨w.heap.size,4,none⟩ = some (.slice jo jn jc) := by rw [← hV]; exact box5 w _ _ _ _ _ _
 have HB := Lib.hid BV
 have HL := Lib.hid (show ∀ W,(W.cell? ⟨w.heap.size,0,none⟩ = some (.int .i64 11) ∧ W.cell? ⟨w.heap.size,1,none⟩ = some (.string ⟨s.toArray⟩) ∧ W.cell? ⟨w.heap.size,2,none⟩ = some (.int .i64 i) ∧ W.cell? ⟨w.heap.size,3,none⟩ = some (.slice ko kn kc) ∧ W.cell? ⟨w.heap.size,4,none⟩ = some (.slice jo jn jc) ∧ Bel V W) → Calls Tryz.prog 244 #[.slice no n nc,.agg #[.int .i64 11,.string ⟨s.toArray⟩,.int .i64 i,.slice ko kn kc,.slice jo jn jc]] W fun e w' => e = .returned (.string ⟨X.toArray⟩) ∧ w'.cell? ⟨w.heap.size,0,none⟩ = some (.int .i64 11) ∧ w'.cell? ⟨w.heap.size,1,none⟩ = some (.string ⟨s.toArray⟩) ∧ w'.cell? ⟨w.heap.size,2,none⟩ = some (.int .i64 i) ∧ w'.cell? ⟨w.heap.size,3,none⟩ = some (.slice ko kn kc) ∧ w'.cell? ⟨w.heap.size,4,none⟩ = some (.slice jo jn jc) ∧ Bel V w' from fun W hS => (hl W (Bel.trans HB.out hS.2.2.2.2.2)).mono fun e w' k => by
  obtain ⟨e1,g⟩ := k
  exact ⟨e1,g.cell' hS.1,g.cell' hS.2.1,g.cell' hS.2.2.1,g.cell' hS.2.2.2.1,g.cell' hS.2.2.2.2.1,Bel.trans hS.2.2.2.2.2 g⟩)
 have h1 : (9223372036854775807 < s.length + 1) = False := eq_false (by omega)
 have h2 : (9223372036854775807 < s.length + 1 + X.length) = False := eq_false (by omega)
 have h3 : (9223372036854775807 < s.length + 1 + X.length + 1) = False := eq_false (by omega)
 clear hl BV hX hs
 go_enter Tryz.func202,Tryz.ntmps202
 go_wp2_with fail
 go_region_held3 (fun W => W.cell? ⟨w.heap.size,0,none⟩ = some (.int .i64 11) ∧ W.cell? ⟨w.heap.size,1,none⟩ = some (.string ⟨s.toArray⟩) ∧ W.cell? ⟨w.heap.size,2,none⟩ = some (.int .i64 i) ∧ W.cell? ⟨w.heap.size,3,none⟩ = some (.slice ko kn kc) ∧ W.cell? ⟨w.heap.size,4,none⟩ = some (.slice jo jn jc) ∧ Bel V W) (first | exact ⟨a1,a2,a3,a4,a5,a6⟩ | exact ⟨y0,y1,y2,y3,y4,Below.drew (Bel.refl _)⟩) (first | (go_at_call 244; (with_reducible refine (HL.out _ ?_).mono ?_); (first | assumption | exact ⟨y0,y1,y2,y3,y4,Below.drew (Bel.refl _)⟩); rintro e w' ⟨rfl,a1,a2,a3,a4,a5,a6⟩))
 all_goals
  have A6 := Lib.hid a6
  go_wp2_with fail
  go_ret
  exact ⟨by simp [ByteArray.ext_iff],Bel.trans HB.out A6.out⟩
theorem bareHost_any (no : Option Addr) (n nc : Nat) (s : Txt) (i : Int) (hi : -9223372036854775808 ≤ i ∧ i ≤ 9223372036854775807) (ko jo : Option Addr) (kn kc jn jc : Nat) (X : Txt) (hX : X.length ≤ 1000000000) (w : World) (hm : Lex.ML w)
  (hl : ∀ W,Bel w W → Calls Tryz.prog 244 #[.slice no n nc,.agg #[.int .i64 12,.string ⟨s.toArray⟩,.int .i64 i,.slice ko kn kc,.slice jo jn jc]] W fun e w' => e = .returned (.string ⟨X.toArray⟩) ∧ Bel W w') :
  Calls Tryz.prog 202 #[.slice no n nc,.agg #[.int .i64 12,.string ⟨s.toArray⟩,.int .i64 i,.slice ko kn kc,.slice jo jn jc]] w fun e w' => e = .returned (.string ⟨(Lex.txtT ⟨6,s,i,0⟩ ++ 40 :: (X ++ [41])).toArray⟩) ∧ Bel w w' := by
 obtain ⟨V,hV⟩ : ∃ V,w.alloc (.cells #[.int .i64 12,.string ⟨s.toArray⟩,.int .i64 i,.slice ko kn kc,.slice jo jn jc] 65) = V := ⟨_,rfl⟩
 have BV : Bel w V := by rw [← hV]; exact Bel.alloc (Bel.refl w) _
 obtain ⟨y0,y1,y2,y3,y4⟩ : V.cell? ⟨w.heap.size,0,none⟩ = some (.int .i64 12) ∧ V.cell? ⟨w.heap.size,1,none⟩ = some (.string ⟨s.toArray⟩) ∧ V.cell? ⟨w.heap.size,2,none⟩ = some (.int .i64 i) ∧ V.cell? ⟨w.heap.size,3,none⟩ = some (.slice ko kn kc) ∧ V.cell? ⟨w.heap.size,4,none⟩ = some (.slice jo jn jc) := by rw [← hV]; exact box5 w _ _ _ _ _ _
 have HB := Lib.hid BV
 have HL := Lib.hid (show ∀ W,(W.cell? ⟨w.heap.size,0,none⟩ = some (.int .i64 12) ∧ W.cell? ⟨w.heap.size,1,none⟩ = some (.string ⟨s.toArray⟩) ∧ W.cell? ⟨w.heap.size,2,none⟩ = some (.int .i64 i) ∧ W.cell? ⟨w.heap.size,3,none⟩ = some (.slice ko kn kc) ∧ W.cell? ⟨w.heap.size,4,none⟩ = some (.slice jo jn jc) ∧ Bel V W) → Calls Tryz.prog 244 #[.slice no n nc,.agg #[.int .i64 12,.string ⟨s.toArray⟩,.int .i64 i,.slice ko kn kc,.slice jo jn jc]] W fun e w' => e = .returned (.string ⟨X.toArray⟩) ∧ w'.cell? ⟨w.heap.size,0,none⟩ = some (.int .i64 12) ∧ w'.cell? ⟨w.heap.size,1,none⟩ = some (.string ⟨s.toArray⟩) ∧ w'.cell? ⟨w.heap.size,2,none⟩ = some (.int .i64 i) ∧ w'.cell? ⟨w.heap.size,3,none⟩ = some (.slice ko kn kc) ∧ w'.cell? ⟨w.heap.size,4,none⟩ = some (.slice jo jn jc) ∧ Bel V w' from fun W hS => (hl W (Bel.trans HB.out hS.2.2.2.2.2)).mono fun e w' k => by
  obtain ⟨e1,g⟩ := k
  exact ⟨e1,g.cell' hS.1,g.cell' hS.2.1,g.cell' hS.2.2.1,g.cell' hS.2.2.2.1,g.cell' hS.2.2.2.2.1,Bel.trans hS.2.2.2.2.2 g⟩)
 have HT := Lib.hid (show ∀ W,(W.cell? ⟨w.heap.size,0,none⟩ = some (.int .i64 12) ∧ W.cell? ⟨w.heap.size,1,none⟩ = some (.string ⟨s.toArray⟩) ∧ W.cell? ⟨w.heap.size,2,none⟩ = some (.int .i64 i) ∧ W.cell? ⟨w.heap.size,3,none⟩ = some (.slice ko kn kc) ∧ W.cell? ⟨w.heap.size,4,none⟩ = some (.slice jo jn jc) ∧ Bel V W) → Calls Tryz.prog 247 #[.int .i64 6,.agg #[.int .i64 12,.string ⟨s.toArray⟩,.int .i64 i,.slice ko kn kc,.slice jo jn jc]] W fun e w' => e = .returned (.string ⟨(Lex.txtT ⟨6,s,i,0⟩).toArray⟩) ∧ w'.cell? ⟨w.heap.size,0,none⟩ = some (.int .i64 12) ∧ w'.cell? ⟨w.heap.size,1,none⟩ = some (.string ⟨s.toArray⟩) ∧ w'.cell? ⟨w.heap.size,2,none⟩ = some (.int .i64 i) ∧ w'.cell? ⟨w.heap.size,3,none⟩ = some (.slice ko kn kc) ∧ w'.cell? ⟨w.heap.size,4,none⟩ = some (.slice jo jn jc) ∧ Bel V w' from fun W hS => (tokT_any 6 12 s i hi ko jo kn kc jn jc W (hm.on (Bel.trans HB.out hS.2.2.2.2.2))).mono fun e w' k => by
  obtain ⟨e1,g⟩ := k
  exact ⟨e1,g.cell' hS.1,g.cell' hS.2.1,g.cell' hS.2.2.1,g.cell' hS.2.2.2.1,g.cell' hS.2.2.2.2.1,Bel.trans hS.2.2.2.2.2 g⟩)
 have ht : (Lex.txtT ⟨6,s,i,0⟩).length ≤ 402 := by
  unfold Lex.txtT
  split
  ·rename_i h
   exact (Lex.ok_len h).2
  ·exact Nat.zero_le _
 generalize Lex.txtT ⟨6,s,i,0⟩ = t at *
 have h1 : (9223372036854775807 < t.length + 1) = False := eq_false (by omega)
 have h2 : (9223372036854775807 < t.length + 1 + X.length) = False := eq_false (by omega)
 have h3 : (9223372036854775807 < t.length + 1 + X.length + 1) = False := eq_false (by omega)
 clear hl BV hX hm hi ht
 go_enter Tryz.func202,Tryz.ntmps202
 go_wp2_with fail
 go_region_held3 (fun W => W.cell? ⟨w.heap.size,0,none⟩ = some (.int .i64 12) ∧ W.cell? ⟨w.heap.size,1,none⟩ = some (.string ⟨s.toArray⟩) ∧ W.cell? ⟨w.heap.size,2,none⟩ = some (.int .i64 i) ∧ W.cell? ⟨w.heap.size,3,none⟩ = some (.slice ko kn kc) ∧ W.cell? ⟨w.heap.size,4,none⟩ = some (.slice jo jn jc) ∧ Bel V W) (first | exact ⟨a1,a2,a3,a4,a5,a6⟩ | exact ⟨y0,y1,y2,y3,y4,Below.drew (Bel.refl _)⟩) (first | (go_at_call 244; (with_reducible refine (HL.out _ ?_).mono ?_); (first | assumption | exact ⟨y0,y1,y2,y3,y4,Below.drew (Bel.refl _)⟩); rintro e w' ⟨rfl,a1,a2,a3,a4,a5,a6⟩) | (go_at_call 247; (with_reducible refine (HT.out _ ?_).mono ?_); (first | assumption | exact ⟨y0,y1,y2,y3,y4,Below.drew (Bel.refl _)⟩); rintro e w' ⟨rfl,a1,a2,a3,a4,a5,a6⟩))
 all_goals
  have A6 := Lib.hid a6
  go_wp2_with fail
  go_ret
  exact ⟨by simp [ByteArray.ext_iff],Bel.trans HB.out A6.out⟩
end Syn
end Go.Proofs.YtcapkeaedpabjaaGreatDoor
