/-
  Layer 6: Put, as the program has it.
-/
import Derived.Test.YtegfcmnbljdcpaaGreatDoorVfD
import Derived.Test.YtegfcmnbljdcpaaGreatDoorVdV
namespace Go.Proofs.YtegfcmnbljdcpaaGreatDoor
open Go.RowKit Go.ChangeShapes Go.WideShapes
namespace Val

theorem vput_no (l x : List Cel) (key : ByteArray) (o : Option Addr) (n c : Nat) (hn : n ≤ 1000000) (hc : n ≤ c) (hsh : Shrt l) (o3 : Option Addr) (n3 c3 : Nat) (w : World) (hA : CArg w o n l) (hk : keyE l ≠ 0) :
    Calls Tryz.prog 15 #[.slice o n c, .string key, .slice o3 n3 c3] w fun e w' => CRes w' e (putB l key x) (putE l key x) ∧ Bel w w' := by
  have HK := Lib.hid (vkeys_any l o n c hn hc hsh w hA)
  have hz1 : Hid (putB l key x = []) := Lib.hid (by unfold putB; rw [if_neg hk])
  have hz2 : Hid (putE l key x = keyE l) := Lib.hid (by unfold putE; rw [if_neg hk])
  generalize keyE l = E at *
  have hne : (E != 0) = true := by simpa using hk
  clear hA hk
  go_enter Tryz.func15, Tryz.ntmps15
  go_wp2_with fail
  refine HK.out.mono ?_
  rintro e w1 ⟨⟨o1, n1, c1, rfl, -⟩, g1⟩
  have G1 := Lib.hid g1
  clear g1
  go_wp2_with fail
  go_ret2
  rw [hz1.out, hz2.out]
  exact ⟨CRes.nil _ _, G1.out⟩
set_option maxRecDepth 100000 in
set_option maxHeartbeats 1000000 in
theorem vput_yes (l x : List Cel) (key : ByteArray) (hkey : key.size ≤ 1000000) (o : Option Addr) (n c : Nat) (hn : n ≤ 1000000) (hc : n ≤ c) (hsh : Shrt l) (o3 : Option Addr) (n3 c3 : Nat) (hn3 : n3 ≤ 300) (hc3 : n3 ≤ c3) (hxs : Shrt x) (w : World) (hA : CArg w o n l) (hX : CArg w o3 n3 x) (hk : keyE l = 0) :
    Calls Tryz.prog 15 #[.slice o n c, .string key, .slice o3 n3 c3] w fun e w' => CRes w' e (putB l key x) (putE l key x) ∧ Bel w w' := by
  have hvk := vkeys_any l o n c hn hc hsh w hA
  rw [hk] at hvk
  have HK := Lib.hid hvk
  obtain ⟨m, hp, hz, hm1, hm2⟩ := key_map hk
  obtain ⟨_, hlf⟩ := par_some.1 hp
  have HS := Lib.hid (fun W (g : Bel w W) => split_mapU w m l hlf o n c hn hc W (hA.on g) hA)
  rw [← hm1, ← hm2] at HS
  have hlen := (key_itm hk).1
  have hfew := key_few hk
  have hxl := hX.1
  have HX := Lib.hid hX
  have HM := Lib.hid (fun (ns : List ByteArray) (ls : List (List Cel)) (hd : Done l key x ns ls) (oN oV : Option Addr) (mN cN mV cV : Nat) (hm : mN = mV) (W : World) (hN : SlArg W oN mN ns) (hV : LArg W oV mV ls) => done_map hk hkey hsh (by omega) hxs hd oN oV mN cN mV cV hm W hN hV)
  have HD1 := Lib.hid (fun (p : Nat) (hp : p ≤ (keyB l).length) h1 h2 hf => done_set (x := x) hk (p := p) (key := key) hp h1 h2 hf)
  have HD2 := Lib.hid (fun (p : Nat) (hp : p ≤ (keyB l).length) h1 h2 hf => done_ins (x := x) hk (p := p) (key := key) hp h1 h2 hf)
  have HB := Lib.hid (fun (o1 : Option Addr) (n1 c1 : Nat) (h1 : n1 ≤ 1000000) (W : World) (h : SlArg W o1 n1 (keyB l)) => search_any (keyB l) key o1 n1 c1 h1 (asc_at (asc_keys hk)) W h)
  obtain ⟨rB, hrB⟩ : ∃ rB, putB l key x = rB := ⟨_, rfl⟩
  obtain ⟨rE, hrE⟩ : ∃ rE, putE l key x = rE := ⟨_, rfl⟩
  rw [hrB, hrE] at HM ⊢
  obtain ⟨ks, hks⟩ : ∃ ks, keyB l = ks := ⟨_, rfl⟩
  obtain ⟨vs, hvs⟩ : ∃ vs, itmB l = vs := ⟨_, rfl⟩
  rw [hks] at HK HS HB HD1 HD2 hlen hfew
  rw [hvs] at HS HD1 HD2 hlen
  have hlena : ks.length ≤ vs.length := Nat.le_of_eq hlen
  have hlenb : vs.length ≤ ks.length := Nat.le_of_eq hlen.symm
  clear hlen
  clear hvk hp hz hm1 hm2 hlf hA hX hk hrB hrE hks hvs hsh hxs
  go_enter Tryz.func15, Tryz.ntmps15
  go_wp2_with fail
  refine HK.out.mono ?_
  rintro e w1 ⟨⟨o1, n1, c1, rfl, hO1⟩, g1⟩
  have G1 := Lib.hid g1
  have O1 := Lib.hid hO1
  clear g1 hO1 HK
  go_wp2_with fail
  refine (HS.out w1 G1.out).mono ?_
  rintro e w2 ⟨aN, mN, cN, aV, mV, cV, qs, rfl, hR, hI⟩
  have hO2 := own_on O1.out hR.2.2.2
  have hS := own_sarg hO2
  have hn1a : n1 ≤ ks.length := Nat.le_of_eq hS.1.symm
  have hn1b : ks.length ≤ n1 := Nat.le_of_eq hS.1
  have hmVa : mV ≤ vs.length := by have h1 := hR.2.1.1; have h2 := hI.1; omega
  have hmVb : vs.length ≤ mV := by have h1 := hR.2.1.1; have h2 := hI.1; omega
  have SB := Lib.hid (HB.out o1 n1 c1 (by omega) w2 hS)
  have hlt1 : ∀ k, (Value.slice o1 n1 c1).ownBlock = some k → w.heap.size ≤ k ∧ k < w1.heap.size := O1.out.lt
  have hlt2 : ∀ k, (Value.slice aV mV cV).ownBlock = some k → w1.heap.size ≤ k ∧ k < w2.heap.size := hR.2.1.lt
  have G2 := Lib.hid (Bel.trans G1.out hR.2.2.2)
  have hs01 := G1.out.size
  have hs12 := hR.2.2.2.size
  have O2 := Lib.hid hO2
  have V2 := Lib.hid hR.2.1
  have I2 := Lib.hid hI
  have L1 := Lib.hid hlt1
  have L2 := Lib.hid hlt2
  clear hR hI hO2 hS hlt1 hlt2 HS HB O1
  go_wp2_with fail
  refine SB.out.mono ?_
  rintro e w3 ⟨⟨p, hpn, rfl, h1, h2⟩, rfl⟩
  have hpl : p ≤ ks.length := by omega
  clear SB
  by_cases hf : ks[p]? = some key
  · have D1 := Lib.hid (HD1.out p hpl h1 h2 hf)
    have hd : decide (ks[p]? = some key) = true := decide_eq_true hf
    have hpv : p < mV := by
      rcases Nat.lt_or_ge p ks.length with q | q
      · omega
      · rw [List.getElem?_eq_none q] at hf; cases hf
    clear HD1 HD2 h1 h2 hf
    obtain ⟨hvl, hvr⟩ := row_of_own V2.out
    rcases hvr with ⟨rfl, h0, _⟩ | ⟨g, f, rfl, hb, hr, hnc, hm, hxf⟩
    · omega
    have hfz : w2.frozen? ⟨g, p, none⟩ = false := hr.frozen p
    have hcl := hr.cell (i := p) (by omega)
    clear hr hxf
    have hK3 := ownsRow_setCell_other O2.out (a := ⟨g, p, none⟩) (fun e => by have := (L1.out g e).2; omega) (.slice o3 n3 c3)
    have hV3 := own_set V2.out (b := g) (j := p) rfl (.slice o3 n3 c3)
    have hV3b : (w2.setCell ⟨g, p, none⟩ (.slice o3 n3 c3)).ownsRow w.heap.size 22 1 (.slice (some ⟨g, 0, none⟩) mV cV) mV (qs.set p (.slice o3 n3 c3)) := ⟨hV3.1, hV3.2.imp id (fun ⟨g, cap, cur, h1, h2, h3⟩ => ⟨g, cap, cur, h1, Nat.le_trans G1.out.size h2, h3⟩)⟩
    have G3 := Lib.hid (show Bel w (w2.setCell ⟨g, p, none⟩ (.slice o3 n3 c3)) from Below.setCell G2.out (p := ⟨g, p, none⟩) (by show w.heap.size ≤ g; omega) _)
    have hap : ∀ b, (Value.slice o1 n1 c1).ownBlock = some b → (Value.slice (some ⟨g, 0, none⟩) mV cV).ownBlock ≠ some b := fun b hb e2 => by
      have a1 := (L1.out b hb).2
      have e3 : g = b := Option.some.inj e2
      omega
    have AR := Lib.hid (Rows.args (V := w) ⟨hK3, hV3b, hap, G3.out⟩ (I2.out.set p HX.out hc3))
    have HMM := Lib.hid (HM.out _ _ D1.out o1 (some ⟨g, 0, none⟩) n1 c1 mV cV (by omega) _ AR.out.1 AR.out.2)
    clear hK3 hV3 hV3b hap AR HM D1
    go_wp2_with fail
    refine HMM.out.mono ?_
    rintro e w6 ⟨⟨o6, n6, c6, rfl, hC6, hle6⟩, g6⟩
    have C6 := Lib.hid hC6
    have G6 := Lib.hid (Bel.trans G3.out g6)
    clear hC6 g6
    go_wp2_with fail
    go_ret2
    exact ⟨⟨o6, n6, c6, rfl, C6.out, hle6⟩, G6.out⟩
  · have D2 := Lib.hid (HD2.out p hpl h1 h2 hf)
    have hd : decide (ks[p]? = some key) = false := decide_eq_false hf
    clear HD1 HD2 h1 h2 hf
    have IN := Lib.hid (insertN w.heap.size n1 c1 p o1 (Go.Proofs.YtegfcmnbljdcpaaGreatDoor.encS ks) (.string key) rfl encS_one (by omega) (by omega) w2 (by omega) O2.out)
    go_wp2_with fail
    refine IN.out.mono ?_
    rintro e w4 ⟨o4, c4, rfl, hO4, hG4, hB4⟩
    clear IN
    have hV4 := V2.out.kept hG4 (by
      by_cases e : (Value.slice aV mV cV).ownBlock = none
      · exact Or.inl e
      · refine Or.inr (fun e2 => ?_)
        obtain ⟨k, hk⟩ := Option.ne_none_iff_exists'.1 e
        have a1 := L2.out k hk
        have a2 := L1.out k (by rw [← e2]; exact hk)
        omega)
    have hs24 := hG4.size
    have G4 := Lib.hid (own_bel O2.out G2.out hG4)
    have hlt4 : ∀ k, (Value.slice o4 (n1 + 1) c4).ownBlock = some k → (k < w1.heap.size ∨ w2.heap.size ≤ k) ∧ k < w4.heap.size := fun k hk => by
      have a3 := hO4.lt k hk
      rcases hB4 with e | ⟨q, e, q2⟩
      · rw [e] at hk
        exact ⟨Or.inl (L1.out k hk).2, a3.2⟩
      · rw [e] at hk; cases hk
        exact ⟨Or.inr q2, a3.2⟩
    have O4 := Lib.hid hO4
    have L4 := Lib.hid hlt4
    have IV := Lib.hid (insertV w1.heap.size mV cV p aV qs (.slice o3 n3 c3) rfl I2.out.cells (by omega) (by omega) w4 (by omega) hV4)
    clear hO4 hG4 hB4 hV4 hlt4 O2 V2
    go_wp2_with fail
    refine IV.out.mono ?_
    rintro e w5 ⟨o5, c5, rfl, hO5, hG5, hB5⟩
    have hO45 := O4.out.kept hG5 (by
      by_cases e : (Value.slice o4 (n1 + 1) c4).ownBlock = none
      · exact Or.inl e
      · refine Or.inr (fun e2 => ?_)
        obtain ⟨k, hk⟩ := Option.ne_none_iff_exists'.1 e
        have a1 := L4.out k hk
        have a2 := L2.out k (by rw [← e2]; exact hk)
        omega)
    have G5 := Lib.hid (show Bel w w5 from Below.grown G4.out hG5 (by omega) (fun k hk => by have := L2.out k hk; omega))
    have hap : ∀ b, (Value.slice o4 (n1 + 1) c4).ownBlock = some b → (Value.slice o5 (mV + 1) c5).ownBlock ≠ some b := fun b hb e2 => by
      have a1 := L4.out b hb
      rcases hB5 with e | ⟨q, e, q2⟩
      · rw [e] at e2
        have a2 := L2.out b e2
        omega
      · rw [e] at e2; cases e2
        omega
    rw [encS_ins] at hO45
    have hO5b : w5.ownsRow w.heap.size 22 1 (.slice o5 (mV + 1) c5) (mV + 1) (insV qs p (.slice o3 n3 c3)) := ⟨hO5.1, hO5.2.imp id (fun ⟨g, cap, cur, h1, h2, h3⟩ => ⟨g, cap, cur, h1, Nat.le_trans G1.out.size h2, h3⟩)⟩
    have AR := Lib.hid (Rows.args (V := w) (w := w5) ⟨hO45, hO5b, hap, G5.out⟩ (I2.out.ins p HX.out hc3))
    have HMM := Lib.hid (HM.out _ _ D2.out o4 o5 (n1 + 1) c4 (mV + 1) c5 (by omega) w5 AR.out.1 AR.out.2)
    clear IV hO5 hG5 hB5 hO45 hO5b hap AR HM D2
    go_wp2_with fail
    refine HMM.out.mono ?_
    rintro e w6 ⟨⟨o6, n6, c6, rfl, hC6, hle6⟩, g6⟩
    have C6 := Lib.hid hC6
    have G6 := Lib.hid (Bel.trans G5.out g6)
    clear hC6 g6
    go_wp2_with fail
    go_ret2
    exact ⟨⟨o6, n6, c6, rfl, C6.out, hle6⟩, G6.out⟩
theorem vput_any (l x : List Cel) (key : ByteArray) (hkey : key.size ≤ 1000000) (o : Option Addr) (n c : Nat) (hn : n ≤ 1000000) (hc : n ≤ c) (hsh : Shrt l) (o3 : Option Addr) (n3 c3 : Nat) (hn3 : n3 ≤ 300) (hc3 : n3 ≤ c3) (hxs : Shrt x) (w : World) (hA : CArg w o n l) (hX : CArg w o3 n3 x) :
    Calls Tryz.prog 15 #[.slice o n c, .string key, .slice o3 n3 c3] w fun e w' => CRes w' e (putB l key x) (putE l key x) ∧ Bel w w' := by
  by_cases hk : keyE l = 0
  · exact vput_yes l x key hkey o n c hn hc hsh o3 n3 c3 hn3 hc3 hxs w hA hX hk
  · exact vput_no l x key o n c hn hc hsh o3 n3 c3 w hA hk
end Val
end Go.Proofs.YtegfcmnbljdcpaaGreatDoor
