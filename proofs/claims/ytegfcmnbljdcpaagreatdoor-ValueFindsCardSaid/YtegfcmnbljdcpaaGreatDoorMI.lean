/-
  Layer 6, texts merged: the program's appendText, Check, Depth, Encode. For every argument within the bounds that each theorem names.
-/
import Derived.Test.YtegfcmnbljdcpaaGreatDoorMH
import Derived.Test.YtegfcmnbljdcpaaGreatDoorMG
import Derived.Deep.DeepCutAuto
import Derived.StillTailTactics
import Derived.Test.YtegfcmnbljdcpaaGreatDoorMC

/-
  Layer 6: a text that append builds: bytes and strings behind it; closing, separator, appendQuoted.
-/
namespace Go.Proofs.YtegfcmnbljdcpaaGreatDoor
open Go.RowKit Go.ChangeShapes Go.WideShapes
namespace Val

/-- A text that one owns. -/
def TxR (w : World) (base : Nat) (o : Option Addr) (n c : Nat) (l : Txt) : Prop := w.ownsRow base 5 1 (.slice o n c) n (encB l)
theorem TxR.len {w : World} {base : Nat} {o : Option Addr} {n c : Nat} {l : Txt} (h : TxR w base o n c l) : l.length = n := by
  have := h.1
  rw [encB_len] at this
  omega
theorem TxR.on {w w' : World} {base : Nat} {o : Option Addr} {n c : Nat} {l : Txt} (h : TxR w base o n c l) (g : Bel w w') : TxR w' base o n c l := own_belz h g
theorem TxR.kept {w w' : World} {base : Nat} {o : Option Addr} {n c : Nat} {l : Txt} {F : Nat → Prop} (h : TxR w base o n c l) (g : Mod F w w') (hf : ∀ k, Blk o k → ¬ F k) : TxR w' base o n c l :=
  own_kept h g (fun b hb => hf b ((blk_of h).2 hb))
/-- What becomes of a text behind which something is appended. -/
structure TxTo (base : Nat) (p : Option Addr) (W : World) (o : Option Addr) (n c : Nat) (l : Txt) (w' : World) : Prop where
  row : TxR w' base o n c l
  mod : Mod (Blk p) W w'
  at_ : ∀ k, Blk o k → Blk p k ∨ W.heap.size ≤ k
theorem TxTo.refl {base : Nat} {o : Option Addr} {n c : Nat} {l : Txt} {w : World} (h : TxR w base o n c l) : TxTo base o w o n c l w := ⟨h, Mod.refl _ _, fun _ h => Or.inl h⟩
theorem TxTo.cast {base : Nat} {p o : Option Addr} {n c : Nat} {l l2 : Txt} {w w' : World} (h : TxTo base p w o n c l w') (e : l = l2) : TxTo base p w o n c l2 w' := e ▸ h
theorem TxTo.trans {base : Nat} {p q o : Option Addr} {n c n2 c2 : Nat} {l l2 : Txt} {w w1 w2 : World} (h : TxTo base p w q n c l w1) (k : TxTo base q w1 o n2 c2 l2 w2) : TxTo base p w o n2 c2 l2 w2 :=
  ⟨k.row, h.mod.trans k.mod h.at_, fun x hx => by
    rcases k.at_ x hx with g | g
    · exact h.at_ x g
    · exact Or.inr (Nat.le_trans h.mod.size g)⟩
theorem TxTo.first {base : Nat} {p o : Option Addr} {n c : Nat} {l : Txt} {w w1 w2 : World} (g : Bel w w1) (k : TxTo base p w1 o n c l w2) : TxTo base p w o n c l w2 :=
  ⟨k.row, (Mod.of_bel g).trans k.mod (fun _ h => Or.inl h), fun x hx => by
    rcases k.at_ x hx with h | h
    · exact Or.inl h
    · exact Or.inr (Nat.le_trans g.size h)⟩
theorem byte_of (u : UInt8) (b : Int) (hb : b = (u.toNat : Int)) (l : Txt) : encB (l ++ [u]) = encB l ++ [.int .u8 b] := by
  rw [encB_app, hb]
  rfl
/-- A byte behind a text, at a region's operation. -/
theorem txt_byte {Y : World} {base m c : Nat} {p : Option Addr} {l : Txt} {g : Nat} {b : Int} {ops : Array Oper} {rest : List Oper} {o : Oper} {a : Act} {Q : Exit → Act → World → Prop} (u : UInt8) (s x : Operand)
    (ho : o.op = .call { callee := .builtin .append, args := #[s, x], argTypes := #[65, 65] }) (hgd : o.guard = none) (hs : a.eval s = .slice p m c) (hx : a.eval x = .slice (some ⟨g, 0, none⟩) 1 1)
    (hcell : Y.cell? ⟨g, 0, none⟩ = some (.int .u8 b)) (hb : b = (u.toNat : Int)) (hown : TxR Y base p m c l) (hm : m ≤ 100000000000000) (hbase : base ≤ Y.heap.size)
    (h : ∀ o3 c3 w', Hid (TxTo base p Y o3 (m + 1) c3 (l ++ [u]) w') → wpList Tryz.prog ops Q rest (a.put o.dst (.slice o3 (m + 1) c3)) w') : wpList Tryz.prog ops Q (o :: rest) a Y :=
  wpList_plain hgd fun K hK => by
    obtain ⟨i0, hi, hz0, hz1, hz2⟩ := info_parts info_u8
    obtain ⟨v', w', r, h2, h3, h4⟩ := app_fresh Y base 65 o.type 5 i0 _ 1 1 Tryz.underlying65 hi hz0 hz1 hz2 rfl (by decide) _ m _ hown ⟨g, 0, none⟩ 1 1 [.int .u8 b] rfl
      (fun j v hj => by
        match j, hj with
        | 0, hj =>
          simp only [List.getElem?_cons_zero, Option.some.injEq] at hj
          rw [Lib.add_plain, ← hj]
          exact hcell) (fun v hv => by simp only [List.mem_singleton] at hv; subst hv; rfl) (by unfold maxLen; omega) (by omega) hbase
    obtain ⟨p2, c2, rfl⟩ := own_shape h2
    unfold Oper.wp execOp
    simp only [ho, resolve, invoke, builtin, Sem.run_bind, Sem.run_pure, Result.andThen_ok, List.map_toArray, List.map_cons, List.map_nil, hs, hx]
    simp only [r]
    refine hK _ _ (h p2 c2 w' (Lib.hid ⟨by unfold TxR; rw [byte_of u b hb]; exact h2, Mod.grown h3 (fun i hi => (blk_of hown).2 hi), fun k hk => ?_⟩))
    have hk2 := (blk_of h2).1 hk
    rcases h4 with h4 | h4
    · rw [h4] at hk2
      exact Or.inl ((blk_of hown).2 hk2)
    · rw [h4, Option.some.injEq] at hk2
      exact Or.inr (by omega)
/-- A string behind a text, at a region's operation. -/
theorem txt_str {Y : World} {base m c : Nat} {p : Option Addr} {l : Txt} {S : ByteArray} {ops : Array Oper} {rest : List Oper} {o : Oper} {a : Act} {Q : Exit → Act → World → Prop} (s x : Operand)
    (ho : o.op = .call { callee := .builtin .append, args := #[s, x], argTypes := #[65, 9] }) (hgd : o.guard = none) (hs : a.eval s = .slice p m c) (hx : a.eval x = .string S)
    (hown : TxR Y base p m c l) (hm : m ≤ 100000000000000) (hS : S.size ≤ 2000000) (hbase : base ≤ Y.heap.size)
    (h : ∀ o3 c3 w', Hid (TxTo base p Y o3 (m + S.size) c3 (l ++ S.toList) w') → wpList Tryz.prog ops Q rest (a.put o.dst (.slice o3 (m + S.size) c3)) w') : wpList Tryz.prog ops Q (o :: rest) a Y :=
  wpList_plain hgd fun K hK => by
    obtain ⟨i0, hi, hz0, hz1, hz2⟩ := info_parts info_u8
    obtain ⟨v', w', r, h2, h3, h4⟩ := app_fresh_str Y base 65 9 o.type 5 i0 Tryz.underlying65 Tryz.underlying9 hi hz0 hz1 hz2 _ m _ hown S (by unfold maxLen; omega) (by omega) hbase
    rw [strCells_enc] at h2
    obtain ⟨p2, c2, rfl⟩ := own_shape h2
    unfold Oper.wp execOp
    simp only [ho, resolve, invoke, builtin, Sem.run_bind, Sem.run_pure, Result.andThen_ok, List.map_toArray, List.map_cons, List.map_nil, hs, hx]
    simp only [r]
    refine hK _ _ (h p2 c2 w' (Lib.hid ⟨by unfold TxR; rw [encB_app]; exact h2, Mod.grown h3 (fun i hi => (blk_of hown).2 hi), fun k hk => ?_⟩))
    have hk2 := (blk_of h2).1 hk
    rcases h4 with h4 | h4
    · rw [h4] at hk2
      exact Or.inl ((blk_of hown).2 hk2)
    · rw [h4, Option.some.injEq] at hk2
      exact Or.inr (by omega)
/-- What a function says that appends to a text. -/
def AppT (base : Nat) (p : Option Addr) (l : Txt) (w : World) (e : Ending) (w' : World) : Prop := ∃ o n c, e = .returned (.slice o n c) ∧ TxTo base p w o n c l w'

theorem closing_any (k : Int) (w : World) : Calls Tryz.prog 70 #[.int .i64 k] w fun e w' => e = .returned (.string ⟨(closeT k).toArray⟩) ∧ w = w' := by
  by_cases h : k = 6
  · subst h
    go_enter Tryz.func70, Tryz.ntmps70
    go_wp2
    go_ret
    exact ⟨rfl, rfl⟩
  · have e : closeT k = [93] := if_neg h
    rw [e]
    have hb : (k == 6) = false := by simpa using h
    go_enter Tryz.func70, Tryz.ntmps70
    go_wp2
    go_ret
    exact ⟨rfl, rfl⟩
theorem separator_any (lev ink part : Int) (hp : 0 ≤ part ∧ part ≤ 4000000) (w : World) : Calls Tryz.prog 71 #[.agg #[.int .i64 lev, .int .i64 ink, .int .i64 part]] w fun e w' => e = .returned (.string ⟨(sepT ⟨lev, ink, part⟩).toArray⟩) ∧ Bel w w' := by
  have HK := Lib.hid (isKey_any lev ink part hp)
  obtain ⟨B, hB⟩ : ∃ B, isKeyS ⟨lev, ink, part⟩ = B := ⟨_, rfl⟩
  obtain ⟨T, hT⟩ : ∃ T, sepT ⟨lev, ink, part⟩ = T := ⟨_, rfl⟩
  have hT2 := hT
  unfold sepT at hT2
  simp only [hB] at hT2
  rw [hB] at HK
  rw [hT]
  clear hB hT hp
  by_cases h : ink = 6
  · subst h
    cases B with
    | true =>
      have e := Lib.hid (hT2.symm : T = [44])
      clear hT2
      go_enter Tryz.func71, Tryz.ntmps71
      go_wp2_with fail
      refine (HK.out _).mono ?_
      rintro e w' ⟨rfl, g⟩
      have G := Lib.hid (Bel.trans (Bel.alloc (Bel.refl w) _) g)
      clear g
      go_wp2
      go_ret
      exact ⟨by rw [e.out]; rfl, G.out⟩
    | false =>
      have e := Lib.hid (hT2.symm : T = [58])
      clear hT2
      go_enter Tryz.func71, Tryz.ntmps71
      go_wp2_with fail
      refine (HK.out _).mono ?_
      rintro e w' ⟨rfl, g⟩
      have G := Lib.hid (Bel.trans (Bel.alloc (Bel.refl w) _) g)
      clear g
      go_wp2
      go_ret
      exact ⟨by rw [e.out]; rfl, G.out⟩
  · have hb : (ink == 6) = false := by simpa using h
    rw [hb] at hT2
    have e := Lib.hid (hT2.symm : T = [44])
    clear hT2 HK
    go_enter Tryz.func71, Tryz.ntmps71
    go_wp2
    go_ret
    exact ⟨by rw [e.out]; rfl, Bel.alloc (Bel.refl w) _⟩
end Val
end Go.Proofs.YtegfcmnbljdcpaaGreatDoor

/-
  Layer 6: appendQuoted, appendText.
-/
namespace Go.Proofs.YtegfcmnbljdcpaaGreatDoor
open Go.RowKit Go.ChangeShapes Go.WideShapes
namespace Val

theorem u8_byte (c : UInt8) : 0 ≤ (c.toNat : Int) ∧ (c.toNat : Int) ≤ 255 := ⟨by omega, by have := c.toNat_lt; omega⟩
set_option maxRecDepth 100000 in
set_option maxHeartbeats 2000000 in
theorem appendQuoted_any (pre : Txt) (s : ByteArray) (base n c : Nat) (o : Option Addr) (w : World) (hown : TxR w base o n c pre) (hn : n ≤ 90000000000000) (hs : s.size ≤ 1000000) (hbase : base ≤ w.heap.size) :
    Calls Tryz.prog 73 #[.slice o n c, .string s] w (AppT base o (pre ++ quo s.toList) w) := by
  have HB := Lib.hid hbase
  have own1 := Lib.hid (hown.on (Bel.alloc (Bel.refl w) (.cells #[.int .u8 34] 5)))
  have c1 : Hid ((w.alloc (.cells #[.int .u8 34] 5)).cell? ⟨w.heap.size, 0, none⟩ = some (.int .u8 34)) := Lib.hid (World.cell?_alloc_new ..)
  clear hown hbase
  go_enter Tryz.func73, Tryz.ntmps73
  go_wp2_with (at_builtin; refine txt_byte 34 _ _ rfl rfl rfl rfl c1.out rfl own1.out (by omega) (Nat.le_trans HB.out (Bel.alloc (Bel.refl w) _).size) ?_)
  rintro o1 c1' w1 ht
  have T0 := Lib.hid (TxTo.first (Bel.alloc (Bel.refl w) _) ht.out)
  clear ht own1 c1
  go_wp2
  go_loopw [0, 11] (fun v i wr => ∃ (k n' c' : Nat) (o' : Option Addr), v = .slice o' n' c' ∧ i = .int .i64 (k : Int) ∧ k ≤ s.size ∧ n' ≤ n + 1 + 2 * k ∧ Hid (TxTo base o w o' n' c' (pre ++ 34 :: esc (s.toList.take k)) wr)) (fun _ i _ => s.size - (intOf i).toNat)
  case atStart => exact ⟨0, n + 1, c1', o1, rfl, rfl, Nat.zero_le _, by omega, Lib.hid T0.out⟩
  case round =>
    obtain ⟨k, n', c', o', rfl, rfl, hk, hn', HT⟩ := hrel
    rename World => wr
    clear T0
    have hn2 : n' ≤ 90000003000000 := by omega
    have HN2 := Lib.hid hn'
    clear hn'
    by_cases hlt : k < s.size
    · have tk : s.toList.take (k + 1) = s.toList.take k ++ [s[k]] := by
        rw [List.take_succ_eq_append_getElem (by rw [toL_len]; exact hlt), toL_get s k hlt]
      have h34 := b34 s[k]
      have h92 := b92 s[k]
      have HBr := Lib.hid (Nat.le_trans HB.out HT.out.mod.size)
      have hub := u8_byte s[k]
      generalize hu : s[k] = u at *
      have tk' := Lib.hid tk
      clear tk
      by_cases hq : u = 34 ∨ u = 92
      · have own1 := Lib.hid (HT.out.row.on (Bel.alloc (Bel.refl wr) (.cells #[.int .u8 92] 5)))
        have c1 : Hid ((wr.alloc (.cells #[.int .u8 92] 5)).cell? ⟨wr.heap.size, 0, none⟩ = some (.int .u8 92)) := Lib.hid (World.cell?_alloc_new ..)
        have hq1 : (decide (u = 34) || decide (u = 92)) = true := by simpa using hq
        have Hq := Lib.hid hq
        obtain ⟨d1, d2⟩ : ∃ d1, decide (u = 34) = d1 := ⟨_, rfl⟩
        obtain ⟨e1, e2⟩ : ∃ d1, decide (u = 92) = d1 := ⟨_, rfl⟩
        rw [d2] at h34 hq1
        rw [e2] at h92 hq1
        clear hq d2 e2
        have hord : d1 = true ∨ (d1 = false ∧ e1 = true) := by cases d1 <;> simp_all
        rcases hord with rfl | ⟨rfl, rfl⟩
        all_goals
          clear hq1
          go_wp2_with (at_builtin; refine txt_byte 92 _ _ rfl rfl rfl rfl c1.out rfl own1.out (by omega) (Nat.le_trans HBr.out (Bel.alloc (Bel.refl wr) _).size) ?_)
          rintro o1 c1' w1 ht
          have T1 := Lib.hid (HT.out.trans (TxTo.first (Bel.alloc (Bel.refl wr) _) ht.out))
          have HB1 := Lib.hid (Nat.le_trans HB.out T1.out.mod.size)
          have own2 := Lib.hid (T1.out.row.on (Bel.alloc (Bel.refl w1) (.cells #[.int .u8 (u.toNat : Int)] 5)))
          have c2 : Hid ((w1.alloc (.cells #[.int .u8 (u.toNat : Int)] 5)).cell? ⟨w1.heap.size, 0, none⟩ = some (.int .u8 (u.toNat : Int))) := Lib.hid (World.cell?_alloc_new ..)
          clear ht own1 c1
          go_wp2_with (at_builtin; refine txt_byte u _ _ rfl rfl rfl rfl c2.out rfl own2.out (by omega) (Nat.le_trans HB1.out (Bel.alloc (Bel.refl w1) _).size) ?_)
          rintro o2 c2' w2 ht
          have T2 := Lib.hid (T1.out.trans (TxTo.first (Bel.alloc (Bel.refl w1) _) ht.out))
          have T3 : Hid (TxTo base o w o2 (n' + 1 + 1) c2' (pre ++ 34 :: esc (s.toList.take (k + 1))) w2) := Lib.hid (by
            rw [tk'.out, esc_snoc, if_pos Hq.out]
            have := T2.out
            simpa using this)
          have hle : Hid (n' + 1 + 1 ≤ n + 1 + 2 * (k + 1)) := Lib.hid (by have := HN2.out; omega)
          clear ht own2 c2 T1 T2 HT
          go_wp2
          go_roundw
          case rel => exact ⟨k + 1, n' + 1 + 1, c2', o2, rfl, by go_num, by omega, hle.out, T3⟩
          case measure => simp [intOf]; omega
      · have own2 := Lib.hid (HT.out.row.on (Bel.alloc (Bel.refl wr) (.cells #[.int .u8 (u.toNat : Int)] 5)))
        have c2 : Hid ((wr.alloc (.cells #[.int .u8 (u.toNat : Int)] 5)).cell? ⟨wr.heap.size, 0, none⟩ = some (.int .u8 (u.toNat : Int))) := Lib.hid (World.cell?_alloc_new ..)
        rw [decide_eq_false (fun h => hq (Or.inl h))] at h34
        rw [decide_eq_false (fun h => hq (Or.inr h))] at h92
        have Hq := Lib.hid hq
        clear hq
        go_wp2_with (at_builtin; refine txt_byte u _ _ rfl rfl rfl rfl c2.out rfl own2.out (by omega) (Nat.le_trans HBr.out (Bel.alloc (Bel.refl wr) _).size) ?_)
        rintro o2 c2' w2 ht
        have T2 := Lib.hid (HT.out.trans (TxTo.first (Bel.alloc (Bel.refl wr) _) ht.out))
        have T3 : Hid (TxTo base o w o2 (n' + 1) c2' (pre ++ 34 :: esc (s.toList.take (k + 1))) w2) := Lib.hid (by
          rw [tk'.out, esc_snoc, if_neg Hq.out]
          have := T2.out
          simpa using this)
        have hle : Hid (n' + 1 ≤ n + 1 + 2 * (k + 1)) := Lib.hid (by have := HN2.out; omega)
        clear ht own2 c2 T2 HT
        go_wp2
        go_roundw
        case rel => exact ⟨k + 1, n' + 1, c2', o2, rfl, by go_num, by omega, hle.out, T3⟩
        case measure => simp [intOf]; omega
    · obtain rfl : k = s.size := by omega
      have e := HT.out
      rw [List.take_of_length_le (by rw [toL_len]; omega)] at e
      have own1 := Lib.hid (e.row.on (Bel.alloc (Bel.refl wr) (.cells #[.int .u8 34] 5)))
      have c1 : Hid ((wr.alloc (.cells #[.int .u8 34] 5)).cell? ⟨wr.heap.size, 0, none⟩ = some (.int .u8 34)) := Lib.hid (World.cell?_alloc_new ..)
      have HBr := Lib.hid (Nat.le_trans HB.out e.mod.size)
      have E := Lib.hid e
      clear e HT
      go_wp2_with (at_builtin; refine txt_byte 34 _ _ rfl rfl rfl rfl c1.out rfl own1.out (by omega) (Nat.le_trans HBr.out (Bel.alloc (Bel.refl wr) _).size) ?_)
      rintro o1 c1' w1 ht
      have T1 := E.out.trans (TxTo.first (Bel.alloc (Bel.refl wr) _) ht.out)
      have T2 : Hid (TxTo base o w o1 (n' + 1) c1' (pre ++ quo s.toList) w1) := Lib.hid (by
        have e : pre ++ quo s.toList = pre ++ 34 :: (esc s.toList ++ [34]) := rfl
        rw [e]
        simpa using T1)
      clear ht own1 c1 T1 E
      go_wp2
      go_ret
      exact ⟨o1, n' + 1, c1', rfl, T2.out⟩
theorem itoa_len (n : Int) (h1 : -9223372036854775808 ≤ n) (h2 : n ≤ 9223372036854775807) : (Lib.itoa n).length ≤ 40 := by
  rw [← Num.fmt_itoa n h1 h2]
  unfold Num.fmtL
  have := Num.ndF_le 18 (Num.abz n).toNat
  rw [List.length_append, Num.digs_len]
  split <;> simp <;> omega
theorem txS (l : Txt) : (⟨l.toArray⟩ : ByteArray).toList = l := by rw [toL]
theorem txZ (l : Txt) : (⟨l.toArray⟩ : ByteArray).size = l.length := by simp [ByteArray.size]
theorem TxR.row_lt {w : World} {base : Nat} {o : Option Addr} {n c : Nat} {l : Txt} (h : TxR w base o n c l) {k : Nat} (hk : Blk o k) : base ≤ k ∧ k < w.heap.size := h.lt k ((blk_of h).1 hk)
set_option maxRecDepth 100000 in
set_option maxHeartbeats 4000000 in
theorem appendText_any (pre : Txt) (k i n : Int) (x : ByteArray) (lev ink part : Int) (base m c : Nat) (o : Option Addr) (w : World) (hown : TxR w base o m c pre) (hm : m ≤ 80000000000000) (hx : x.size ≤ 1000000) (hi : -9223372036854775808 ≤ i ∧ i ≤ 9223372036854775807) (hp : 0 ≤ part ∧ part ≤ 4000000) (hbase : base ≤ w.heap.size) :
    Calls Tryz.prog 44 #[.slice o m c, .agg #[.int .i64 k, .int .i64 i, .string x, .int .i64 n], .agg #[.int .i64 lev, .int .i64 ink, .int .i64 part]] w (AppT base o (pre ++ evT (⟨k, i, x.toList, n⟩, ⟨lev, ink, part⟩)) w) := by
  have HB := Lib.hid hbase
  have B2 : Hid (Bel w ((w.alloc (.cells #[.int .i64 k, .int .i64 i, .string x, .int .i64 n] 43)).alloc (.cells #[.int .i64 lev, .int .i64 ink, .int .i64 part] 68))) := Lib.hid (Bel.alloc (Bel.alloc (Bel.refl w) _) _)
  have R0 := Lib.hid (hown.on B2.out)
  have HB0 := Lib.hid (Nat.le_trans hbase B2.out.size)
  have HL0 : ∀ q, Blk o q → q < w.heap.size := fun q hq => (hown.row_lt hq).2
  have HL := Lib.hid HL0
  clear hown hbase HL0
  by_cases hk0 : k = 0
  · have e : evT (⟨k, i, x.toList, n⟩, ⟨lev, ink, part⟩) = closeT ink := if_pos hk0
    rw [e]
    have hc : (closeT ink).length = 1 := by unfold closeT; split <;> rfl
    have hz := txZ (closeT ink)
    have hs := txS (closeT ink)
    have HC := Lib.hid (closing_any ink)
    subst hk0
    generalize hS : (⟨(closeT ink).toArray⟩ : ByteArray) = S at *
    rw [hc] at hz
    have Hs := Lib.hid hs
    clear hs hS e hc
    have hzz : S.size ≤ 2000000 := by omega
    clear hz
    go_enter Tryz.func44, Tryz.ntmps44
    go_wp2_with fail
    refine (HC.out _).mono ?_
    rintro e w' ⟨rfl, rfl⟩
    go_wp2_with (at_builtin; refine txt_str _ _ rfl rfl rfl rfl R0.out (by omega) hzz HB0.out ?_)
    rintro o1 c1 w1 ht
    have T := Lib.hid (TxTo.first B2.out ht.out)
    rw [Hs.out] at T
    clear ht
    go_wp2
    go_ret
    exact ⟨o1, m + S.size, c1, rfl, T.out⟩
  · have E0 : Hid (evT (⟨k, i, x.toList, n⟩, ⟨lev, ink, part⟩) = preT ⟨lev, ink, part⟩ ++ tokT ⟨k, i, x.toList, n⟩) := Lib.hid (if_neg hk0)
    have hk0b : (k == 0) = false := by simpa using hk0
    have hk0c := Lib.hid hk0
    have KA : Hid (((w.alloc (.cells #[.int .i64 k, .int .i64 i, .string x, .int .i64 n] 43)).alloc (.cells #[.int .i64 lev, .int .i64 ink, .int .i64 part] 68)).cell? ⟨w.heap.size, 0, none⟩ = some (.int .i64 k) ∧ ((w.alloc (.cells #[.int .i64 k, .int .i64 i, .string x, .int .i64 n] 43)).alloc (.cells #[.int .i64 lev, .int .i64 ink, .int .i64 part] 68)).cell? ⟨w.heap.size, 1, none⟩ = some (.int .i64 i) ∧ ((w.alloc (.cells #[.int .i64 k, .int .i64 i, .string x, .int .i64 n] 43)).alloc (.cells #[.int .i64 lev, .int .i64 ink, .int .i64 part] 68)).cell? ⟨w.heap.size, 2, none⟩ = some (.string x)) := Lib.hid (by
      obtain ⟨a, b, c, -⟩ := boxC w k i n x 43
      exact ⟨(Bel.alloc (Bel.refl _) _).cell' a, (Bel.alloc (Bel.refl _) _).cell' b, (Bel.alloc (Bel.refl _) _).cell' c⟩)
    clear hk0
    go_enter Tryz.func44, Tryz.ntmps44
    go_upto_if 17 with (fail)
    go_cut [0] (fun v wx => ∃ o1 m1 c1, v = .slice o1 m1 c1 ∧ m1 ≤ m + 2000000 ∧ Hid (TxTo base o w o1 m1 c1 (pre ++ preT ⟨lev, ink, part⟩) wx) ∧ wx.cell? ⟨w.heap.size, 0, none⟩ = some (.int .i64 k) ∧ wx.cell? ⟨w.heap.size, 1, none⟩ = some (.int .i64 i) ∧ wx.cell? ⟨w.heap.size, 2, none⟩ = some (.string x))
    case first =>
      by_cases hpp : 0 < part
      · have e : preT ⟨lev, ink, part⟩ = sepT ⟨lev, ink, part⟩ := if_pos hpp
        have HE := Lib.hid e
        have hSp := Lib.hid (separator_any lev ink part hp)
        have hc : (sepT ⟨lev, ink, part⟩).length = 1 := by unfold sepT; split <;> rfl
        have hz := txZ (sepT ⟨lev, ink, part⟩)
        have hs := Lib.hid (txS (sepT ⟨lev, ink, part⟩))
        obtain ⟨S, hS⟩ : ∃ S : ByteArray, ⟨(sepT ⟨lev, ink, part⟩).toArray⟩ = S := ⟨_, rfl⟩
        rw [hS] at hSp hz hs
        have hzz : S.size ≤ 2000000 := by omega
        have HL1 := HL.out
        have HLh := Lib.hid HL1
        clear hz hS hc e HL1 HL
        go_wp2_with fail
        refine (hSp.out _).mono ?_
        rintro e w1 ⟨rfl, g⟩
        have B1 := Lib.hid (Bel.trans B2.out g)
        have R1 := Lib.hid (R0.out.on g)
        have HB2 := Lib.hid (Nat.le_trans HB0.out g.size)
        have g0 := Lib.hid (g.cell' KA.out.1)
        have g1 := Lib.hid (g.cell' KA.out.2.1)
        have g2 := Lib.hid (g.cell' KA.out.2.2)
        clear g
        go_wp2_with (at_builtin; refine txt_str _ _ rfl rfl rfl rfl R1.out (by omega) hzz HB2.out ?_)
        rintro o2 c2 w2 ht
        have T := Lib.hid (TxTo.first B1.out ht.out)
        rw [hs.out, ← HE.out] at T
        have nb : ¬ Blk o w.heap.size := fun h => Nat.lt_irrefl _ (HLh.out _ h)
        have k0 := Lib.hid (ht.out.mod.cell g0.out nb)
        have k1 := Lib.hid (ht.out.mod.cell g1.out nb)
        have k2 := Lib.hid (ht.out.mod.cell g2.out nb)
        clear ht nb
        go_wp2
        go_meet
        exact ⟨o2, _, c2, rfl, by omega, T, k0.out, k1.out, k2.out⟩
      · have e : preT ⟨lev, ink, part⟩ = [] := if_neg hpp
        have HE := Lib.hid e
        clear e
        go_wp2
        go_meet
        exact ⟨o, m, c, rfl, by omega, Lib.hid (by rw [HE.out, List.append_nil]; exact TxTo.first B2.out (TxTo.refl R0.out)), KA.out.1, KA.out.2.1, KA.out.2.2⟩
    case rest =>
      obtain ⟨o1, m1, c1, rfl, hm1, T1, q0, q1, q2⟩ := hcut
      rename World => wx
      have HB1 := Lib.hid (Nat.le_trans HB.out T1.out.mod.size)
      clear KA R0 HB0 B2
      by_cases h1 : k = 1
      · subst h1
        go_wp2_with (at_builtin; refine txt_str _ _ rfl rfl rfl rfl T1.out.row (by omega) (by decide) HB1.out ?_)
        rintro o2 c2 w2 ht
        have T : Hid (TxTo base o w o2 _ c2 (pre ++ evT (⟨1, i, x.toList, n⟩, ⟨lev, ink, part⟩)) w2) := Lib.hid ((T1.out.trans ht.out).cast (by rw [E0.out]; simp [tokT]))
        clear ht
        go_wp2
        go_ret
        exact ⟨o2, _, c2, rfl, T.out⟩
      · have h1b : (k == 1) = false := by simpa using h1
        have H1 := Lib.hid h1
        clear h1
        by_cases h2 : k = 2
        · subst h2
          by_cases h20 : i = 0
          · subst h20
            go_wp2_with (at_builtin; refine txt_str _ _ rfl rfl rfl rfl T1.out.row (by omega) (by decide) HB1.out ?_)
            rintro o2 c2 w2 ht
            have T : Hid (TxTo base o w o2 _ c2 (pre ++ evT (⟨2, 0, x.toList, n⟩, ⟨lev, ink, part⟩)) w2) := Lib.hid ((T1.out.trans ht.out).cast (by rw [E0.out]; simp [tokT]))
            clear ht
            go_wp2
            go_ret
            exact ⟨o2, _, c2, rfl, T.out⟩
          · have h20b : (i == 0) = false := by simpa using h20
            have H20 := Lib.hid h20
            clear h20
            go_wp2_with (at_builtin; refine txt_str _ _ rfl rfl rfl rfl T1.out.row (by omega) (by decide) HB1.out ?_)
            rintro o2 c2 w2 ht
            have T : Hid (TxTo base o w o2 _ c2 (pre ++ evT (⟨2, i, x.toList, n⟩, ⟨lev, ink, part⟩)) w2) := Lib.hid ((T1.out.trans ht.out).cast (by rw [E0.out]; simp [tokT, H20.out]))
            clear ht
            go_wp2
            go_ret
            exact ⟨o2, _, c2, rfl, T.out⟩
        · have h2b : (k == 2) = false := by simpa using h2
          have H2 := Lib.hid h2
          clear h2
          by_cases h3 : k = 3
          · subst h3
            have hF := Lib.hid (Num.format_bel i hi.1 hi.2)
            rw [Num.fmt_itoa i hi.1 hi.2] at hF
            have hz := txZ (Lib.itoa i)
            have hzl := itoa_len i hi.1 hi.2
            have hs := Lib.hid (txS (Lib.itoa i))
            obtain ⟨S, hS⟩ : ∃ S : ByteArray, ⟨(Lib.itoa i).toArray⟩ = S := ⟨_, rfl⟩
            rw [hS] at hF hz hs
            have hzz : S.size ≤ 2000000 := by omega
            clear hz hzl hS
            go_wp2_with fail
            refine (hF.out _).mono ?_
            rintro e w1 ⟨rfl, g⟩
            have G := Lib.hid g
            have R1 := Lib.hid (T1.out.row.on g)
            have HB2 := Lib.hid (Nat.le_trans HB1.out g.size)
            clear g
            go_wp2_with (at_builtin; refine txt_str _ _ rfl rfl rfl rfl R1.out (by omega) hzz HB2.out ?_)
            rintro o2 c2 w2 ht
            have T : Hid (TxTo base o w o2 _ c2 (pre ++ evT (⟨3, i, x.toList, n⟩, ⟨lev, ink, part⟩)) w2) := Lib.hid ((T1.out.trans (TxTo.first G.out ht.out)).cast (by rw [E0.out, hs.out]; simp [tokT]))
            clear ht
            go_wp2
            go_ret
            exact ⟨o2, _, c2, rfl, T.out⟩
          · have h3b : (k == 3) = false := by simpa using h3
            have H3 := Lib.hid h3
            clear h3
            by_cases h4 : k = 4
            · subst h4
              have hq := Lib.hid (appendQuoted_any (pre ++ preT ⟨lev, ink, part⟩) x base m1 c1 o1 wx T1.out.row (by omega) hx HB1.out)
              go_wp2_with fail
              refine hq.out.mono ?_
              rintro e w1 ⟨o2, m2, c2, rfl, ht⟩
              have T := Lib.hid (T1.out.trans ht)
              have e2 : Hid (pre ++ preT ⟨lev, ink, part⟩ ++ quo x.toList = pre ++ evT (⟨4, i, x.toList, n⟩, ⟨lev, ink, part⟩)) := Lib.hid (by rw [E0.out, List.append_assoc]; rfl)
              rw [e2.out] at T
              clear ht hq
              go_wp2
              go_ret
              exact ⟨o2, _, c2, rfl, T.out⟩
            · have h4b : (k == 4) = false := by simpa using h4
              have H4 := Lib.hid h4
              clear h4
              by_cases h5 : k = 5
              · subst h5
                have own1 := Lib.hid (T1.out.row.on (Bel.alloc (Bel.refl wx) (.cells #[.int .u8 91] 5)))
                have c1' : Hid ((wx.alloc (.cells #[.int .u8 91] 5)).cell? ⟨wx.heap.size, 0, none⟩ = some (.int .u8 91)) := Lib.hid (World.cell?_alloc_new ..)
                go_wp2_with (at_builtin; refine txt_byte 91 _ _ rfl rfl rfl rfl c1'.out rfl own1.out (by omega) (Nat.le_trans HB1.out (Bel.alloc (Bel.refl wx) _).size) ?_)
                rintro o2 c2 w2 ht
                have T : Hid (TxTo base o w o2 _ c2 (pre ++ evT (⟨5, i, x.toList, n⟩, ⟨lev, ink, part⟩)) w2) := Lib.hid ((T1.out.trans (TxTo.first (Bel.alloc (Bel.refl wx) _) ht.out)).cast (by rw [E0.out]; simp [tokT]))
                clear ht own1 c1'
                go_wp2
                go_ret
                exact ⟨o2, _, c2, rfl, T.out⟩
              · have h5b : (k == 5) = false := by simpa using h5
                have H5 := Lib.hid h5
                clear h5
                have own1 := Lib.hid (T1.out.row.on (Bel.alloc (Bel.refl wx) (.cells #[.int .u8 123] 5)))
                have c1' : Hid ((wx.alloc (.cells #[.int .u8 123] 5)).cell? ⟨wx.heap.size, 0, none⟩ = some (.int .u8 123)) := Lib.hid (World.cell?_alloc_new ..)
                go_wp2_with (at_builtin; refine txt_byte 123 _ _ rfl rfl rfl rfl c1'.out rfl own1.out (by omega) (Nat.le_trans HB1.out (Bel.alloc (Bel.refl wx) _).size) ?_)
                rintro o2 c2 w2 ht
                have T : Hid (TxTo base o w o2 _ c2 (pre ++ evT (⟨k, i, x.toList, n⟩, ⟨lev, ink, part⟩)) w2) := Lib.hid ((T1.out.trans (TxTo.first (Bel.alloc (Bel.refl wx) _) ht.out)).cast (by rw [E0.out]; simp [tokT, H1.out, H2.out, H3.out, H4.out, H5.out]))
                clear ht own1 c1'
                go_wp2
                go_ret
                exact ⟨o2, _, c2, rfl, T.out⟩
end Val
end Go.Proofs.YtegfcmnbljdcpaaGreatDoor

/-
  Layer 6: the visitor of Check.
-/
namespace Go.Proofs.YtegfcmnbljdcpaaGreatDoor
open Go.RowKit Go.ChangeShapes Go.WideShapes
namespace Val

/-- A variable of one's own. -/
def VarB (w : World) (g : Nat) (v : Value) : Prop := w.cell? ⟨g, 0, none⟩ = some v ∧ w.frozen? ⟨g, 0, none⟩ = false
theorem VarB.lt {w : World} {g : Nat} {v : Value} (h : VarB w g v) : g < w.heap.size := cell_lt' h.1
theorem VarB.same {w w' : World} {g : Nat} {v : Value} (h : VarB w g v) (e : w'.heap[g]? = w.heap[g]?) : VarB w' g v :=
  ⟨(World.cell?_of_block (a := ⟨g, 0, none⟩) e).trans h.1, (World.frozen?_of_block (a := ⟨g, 0, none⟩) e).trans h.2⟩
theorem VarB.mod {F : Nat → Prop} {w w' : World} {g : Nat} {v : Value} (h : VarB w g v) (m : Mod F w w') (hf : ¬ F g) : VarB w' g v := h.same (m.block g h.lt hf)
theorem VarB.set {w : World} {g : Nat} {v : Value} (h : VarB w g v) (u : Value) : VarB (w.setCell ⟨g, 0, none⟩ u) g u :=
  ⟨World.cell?_setCell_same w _ _ h.1, by rw [World.frozen?_setCell]; exact h.2⟩
theorem VarB.far {w : World} {g q : Nat} {v : Value} (h : VarB w g v) (u : Value) (hne : ¬ q = g) : VarB (w.setCell ⟨q, 0, none⟩ u) g v :=
  ⟨(World.cell?_setCell_far w ⟨q, 0, none⟩ ⟨g, 0, none⟩ u hne).trans h.1, by rw [World.frozen?_setCell]; exact h.2⟩
theorem own_same {w w' : World} {base : Nat} {e : TypeId} {z : Nat} {v : Value} {n : Nat} {xs : List Value} (h : w.ownsRow base e z v n xs) (hv : ∀ b, v.ownBlock = some b → w'.heap[b]? = w.heap[b]?) : w'.ownsRow base e z v n xs := by
  refine ⟨h.1, ?_⟩
  rcases h.2 with h2 | ⟨b, cap, cur, rfl, hb, hc, r⟩
  · exact Or.inl h2
  · exact Or.inr ⟨b, cap, cur, rfl, hb, (hv b rfl).trans hc, r⟩
theorem tok_len (c : Cel) (h : Fits c) : (tokT c).length ≤ 2 * c.s.length + 50 := by
  unfold tokT
  have h1 := itoa_len c.i h.2.1.1 h.2.1.2
  have h2 := esc_len c.s
  have h3 : (quo c.s).length = (esc c.s).length + 2 := by simp [quo]
  split
  · simp
  · split
    · split <;> simp
    · split
      · omega
      · split
        · omega
        · split <;> simp
theorem evT_len (c : Cel) (s : Spt) (h : Fits c) : (evT (c, s)).length ≤ 2 * c.s.length + 60 := by
  unfold evT
  split
  · unfold closeT; split <;> simp
  · have h1 := tok_len c h
    have h2 : (preT s).length ≤ 1 := by
      unfold preT sepT
      split
      · split <;> simp
      · simp
    simp only [List.length_append]
    omega
theorem evTs_snoc (es : List Ev) (e : Ev) : evTs (es ++ [e]) = evTs es ++ evT e := by rw [evTs_app, evTs_cons, evTs_nil, List.append_nil]
theorem evL_snoc (es : List Ev) (e : Ev) : evL (es ++ [e]) = max (evL es) e.2.lev := by unfold evL; rw [List.foldl_append]; rfl
theorem evA_snoc (p : Cel → Bool) (es : List Ev) (e : Ev) : evA p (es ++ [e]) = (evA p es && p e.1) := by rw [evA_app]; simp [evA]
def pI (c : Cel) : Bool := validI c.i
theorem vld_I (n : Int) : Num.vld n = validI n := by unfold Num.vld validI; rw [Bool.eq_iff_iff]; simp
/-- What Check keeps of what was visited. -/
structure JC (g1 g2 g3 g4 g5 base : Nat) (es : List Ev) (F : Nat → Prop) (w : World) : Prop where
  v1 : VarB w g1 (.bool (evA pI es))
  v2 : VarB w g2 (.bool (evA strC es))
  v3 : VarB w g3 (.int .i64 (evL es))
  v5 : VarB w g5 (.int .i64 ((evTs es).length : Int))
  piece : ∃ o n c pc, (∀ k, F k ↔ (k = g1 ∨ k = g2 ∨ k = g3 ∨ k = g4 ∨ k = g5) ∨ Blk o k) ∧ TxR w base o n c pc ∧ VarB w g4 (.slice o n c) ∧ n ≤ 3000000
  size : base ≤ w.heap.size
  lev : 0 ≤ evL es ∧ evL es ≤ 4000000
  txt : (evTs es).length ≤ es.length * 2000100
theorem JC.keep {g1 g2 g3 g4 g5 base : Nat} {es : List Ev} {F : Nat → Prop} {w w' : World} (h : JC g1 g2 g3 g4 g5 base es F w) (hs : w.heap.size ≤ w'.heap.size) (hF : ∀ k, F k → w'.heap[k]? = w.heap[k]?) : JC g1 g2 g3 g4 g5 base es F w' := by
  obtain ⟨o, n, c, pc, h1, h2, h3, h4⟩ := h.piece
  exact ⟨h.v1.same (hF _ ((h1 _).2 (Or.inl (Or.inl rfl)))), h.v2.same (hF _ ((h1 _).2 (Or.inl (Or.inr (Or.inl rfl))))), h.v3.same (hF _ ((h1 _).2 (Or.inl (Or.inr (Or.inr (Or.inl rfl)))))), h.v5.same (hF _ ((h1 _).2 (Or.inl (Or.inr (Or.inr (Or.inr (Or.inr rfl))))))),
    ⟨o, n, c, pc, h1, own_same h2 (fun b hb => hF b ((h1 b).2 (Or.inr ((blk_of h2).2 hb)))), h3.same (hF _ ((h1 _).2 (Or.inl (Or.inr (Or.inr (Or.inr (Or.inl rfl))))))), h4⟩, Nat.le_trans h.size hs, h.lev, h.txt⟩
theorem JC.lt {g1 g2 g3 g4 g5 base : Nat} {es : List Ev} {F : Nat → Prop} {w : World} (h : JC g1 g2 g3 g4 g5 base es F w) : ∀ k, F k → k < w.heap.size := by
  obtain ⟨o, n, c, pc, h1, h2, h3, h4⟩ := h.piece
  intro k hk
  rcases (h1 k).1 hk with (rfl | rfl | rfl | rfl | rfl) | hb
  · exact h.v1.lt
  · exact h.v2.lt
  · exact h.v3.lt
  · exact h3.lt
  · exact h.v5.lt
  · exact (h2.row_lt hb).2
theorem own_le {w : World} {base : Nat} {e : TypeId} {z : Nat} {o : Option Addr} {n c : Nat} {xs : List Value} (h : w.ownsRow base e z (.slice o n c) n xs) : n ≤ c := by
  rcases h.2 with ⟨hv, _⟩ | ⟨g, cap, cur, hv, _, _, hnc, _⟩
  · simp only [Value.slice.injEq] at hv
    omega
  · simp only [Value.slice.injEq] at hv
    omega
theorem elem_u8s : Tryz.prog.underlying 65 = some (.slice (Tryz.prog.elem 65)) := by kernel_rfl
theorem size_u8s (w : World) : (sizeOf (Tryz.prog.elem 65)).run Tryz.prog w = .ok 1 w := by kernel_rfl
/-- The slice without its elements. -/
theorem cut_zero (o : Option Addr) (m c : Nat) (_ : m ≤ c) (W : World) : (Instr.slice 65 (.slice o m c) none (some (.int .i64 0)) none).run Tryz.prog W = .ok (.slice o 0 c) W := by
  rw [run_slice_h W 65 _ m c elem_u8s .i64 0 (by omega) (by omega), size_u8s]
  cases o with
  | none => simp [Result.andThen, sliced]
  | some a => simp only [Result.andThen, sliced, Int.toNat_zero, Nat.zero_mul, Nat.sub_zero, Option.map_some, Addr.add_zero', ite_self]
theorem TxR.far {w : World} {base g : Nat} {o : Option Addr} {n c : Nat} {l : Txt} (h : TxR w base o n c l) (u : Value) (hg : g < base) : TxR (w.setCell ⟨g, 0, none⟩ u) base o n c l :=
  own_same h fun b hb => Below.heap_setCell _ _ _ _ (fun e => by have := (h.lt b hb).1; simp only at e; omega)
/-- Five places, all different, below the texts. -/
def Five (g1 g2 g3 g4 g5 base : Nat) : Prop := (g1 < g2 ∧ g2 < g3 ∧ g3 < g5 ∧ g5 < g4) ∧ g4 < base
set_option maxRecDepth 100000 in
set_option maxHeartbeats 4000000 in
theorem check_call {g1 g2 g3 g4 g5 base : Nat} (h5 : Five g1 g2 g3 g4 g5 base) (es : List Ev) (F : Nat → Prop) (w : World) (k i n : Int) (x : ByteArray) (lev ink part : Int) (hJ : JC g1 g2 g3 g4 g5 base es F w) (hf : Fits ⟨k, i, x.toList, n⟩) (hx : x.size ≤ 1000000) (hl : 0 ≤ lev ∧ lev ≤ 4000000) (hp : 0 ≤ part ∧ part ≤ 4000000) (he : es.length ≤ 4000000) :
    Calls Tryz.prog 48 #[.agg #[.int .i64 k, .int .i64 i, .string x, .int .i64 n], .agg #[.int .i64 lev, .int .i64 ink, .int .i64 part], .pointer (some ⟨g1, 0, none⟩), .pointer (some ⟨g2, 0, none⟩), .pointer (some ⟨g3, 0, none⟩), .pointer (some ⟨g4, 0, none⟩), .pointer (some ⟨g5, 0, none⟩)] w
      fun e w' => e = .returned (.tuple #[]) ∧ ∃ F', JC g1 g2 g3 g4 g5 base (es ++ [(⟨k, i, x.toList, n⟩, ⟨lev, ink, part⟩)]) F' w' ∧ Mod F w w' ∧ ∀ k, F' k → F k ∨ w.heap.size ≤ k := by
  obtain ⟨o, m, c, pc, hF, hT, hV4, hm⟩ := hJ.piece
  obtain ⟨⟨d1, d2, d3, d4⟩, d5⟩ := h5
  have hsz := hJ.size
  obtain ⟨W, hW⟩ : ∃ W, (w.alloc (.cells #[.int .i64 k, .int .i64 i, .string x, .int .i64 n] 43)).alloc (.cells #[.int .i64 lev, .int .i64 ink, .int .i64 part] 68) = W := ⟨_, rfl⟩
  have B0 : Bel w W := by rw [← hW]; exact Bel.alloc (Bel.alloc (Bel.refl w) _) _
  have hsW : w.heap.size + 2 = W.heap.size := by rw [← hW]; simp
  have bc : (W.cell? ⟨w.heap.size, 0, none⟩ = some (.int .i64 k) ∧ W.cell? ⟨w.heap.size, 1, none⟩ = some (.int .i64 i) ∧ W.cell? ⟨w.heap.size, 2, none⟩ = some (.string x) ∧ W.cell? ⟨w.heap.size, 3, none⟩ = some (.int .i64 n)) := by
    obtain ⟨a, b, c, d⟩ := boxC w k i n x 43
    rw [← hW]
    exact ⟨(Bel.alloc (Bel.refl _) _).cell' a, (Bel.alloc (Bel.refl _) _).cell' b, (Bel.alloc (Bel.refl _) _).cell' c, (Bel.alloc (Bel.refl _) _).cell' d⟩
  have bs : (W.cell? ⟨w.heap.size + 1, 0, none⟩ = some (.int .i64 lev) ∧ W.cell? ⟨w.heap.size + 1, 1, none⟩ = some (.int .i64 ink) ∧ W.cell? ⟨w.heap.size + 1, 2, none⟩ = some (.int .i64 part)) := by
    have := boxS (w.alloc (.cells #[.int .i64 k, .int .i64 i, .string x, .int .i64 n] 43)) lev ink part 68
    rw [hW] at this
    simpa using this
  have fg1 : VarB W g1 _ := hJ.v1.mod (Mod.of_bel (F := fun _ => False) B0) id
  have fg2 : VarB W g2 _ := hJ.v2.mod (Mod.of_bel (F := fun _ => False) B0) id
  have fg3 : VarB W g3 _ := hJ.v3.mod (Mod.of_bel (F := fun _ => False) B0) id
  have fg4 : VarB W g4 _ := hV4.mod (Mod.of_bel (F := fun _ => False) B0) id
  have fg5 : VarB W g5 _ := hJ.v5.mod (Mod.of_bel (F := fun _ => False) B0) id
  have t0 := hT.on B0
  have hmc := own_le hT
  have hcut := fun W' => cut_zero o m c hmc W'
  have hbW := Nat.le_trans hsz B0.size
  obtain ⟨V, hV⟩ : ∃ V, Num.vld i = V := ⟨_, rfl⟩
  obtain ⟨S, hS⟩ : ∃ S, decide ((x.size : Int) ≤ 200) = S := ⟨_, rfl⟩
  obtain ⟨L, hL⟩ : ∃ L, evL es = L := ⟨_, rfl⟩
  obtain ⟨T, hTl⟩ : ∃ T, (evTs es).length = T := ⟨_, rfl⟩
  obtain ⟨B1, hB1⟩ : ∃ B, evA pI es = B := ⟨_, rfl⟩
  obtain ⟨B2, hB2⟩ : ∃ B, evA strC es = B := ⟨_, rfl⟩
  have HVal := Lib.hid (Num.valid_any i)
  rw [hV] at HVal
  have hLb := hJ.lev
  have hTb := hJ.txt
  have hJs := Lib.hid hJ
  rw [hL] at fg3 hLb
  rw [hTl] at fg5 hTb
  rw [hB1] at fg1
  rw [hB2] at fg2
  obtain ⟨M3, hM3⟩ : ∃ M3, max L lev = M3 := ⟨_, rfl⟩
  have HTx := Lib.hid (fun (W' : World) (g : TxR W' base o m c pc) (hb : base ≤ W'.heap.size) => appendText_any [] k i n x lev ink part base 0 c o W' (own_take g (Nat.zero_le _)) (by omega) hx hf.2.1 hp hb)
  have hEl := evT_len ⟨k, i, x.toList, n⟩ ⟨lev, ink, part⟩ hf
  have hElx : x.toList.length = x.size := by rw [toL_len]
  simp only [List.nil_append] at HTx
  obtain ⟨P, hP⟩ : ∃ P, evT (⟨k, i, x.toList, n⟩, ⟨lev, ink, part⟩) = P := ⟨_, rfl⟩
  rw [hP] at HTx hEl
  have hPl : P.length ≤ 2000060 := by have : P.length ≤ 2 * x.toList.length + 60 := hEl; omega
  -- what is to be shown at the end
  have hend : Hid (∀ (w' : World) (o' : Option Addr) (n' c' : Nat), VarB w' g1 (.bool (B1 && V)) → VarB w' g2 (.bool (B2 && S)) → VarB w' g3 (.int .i64 M3) → VarB w' g5 (.int .i64 ((T : Int) + P.length)) → TxR w' base o' n' c' P → VarB w' g4 (.slice o' n' c') → Mod (fun k => (k = g1 ∨ k = g2 ∨ k = g3 ∨ k = g4 ∨ k = g5) ∨ Blk o k) W w' → (∀ k, Blk o' k → Blk o k ∨ W.heap.size ≤ k) →
      ∃ F', JC g1 g2 g3 g4 g5 base (es ++ [(⟨k, i, x.toList, n⟩, ⟨lev, ink, part⟩)]) F' w' ∧ Mod F w w' ∧ ∀ k, F' k → F k ∨ w.heap.size ≤ k) := Lib.hid fun w' o' n' c' a1 a2 a3 a5 aT a4 aM aF => by
    refine ⟨fun k => (k = g1 ∨ k = g2 ∨ k = g3 ∨ k = g4 ∨ k = g5) ∨ Blk o' k, ⟨?_, ?_, ?_, ?_, ⟨o', n', c', P, fun k => Iff.rfl, aT, a4, by have := aT.len; omega⟩, ?_, ?_, ?_⟩, ?_, ?_⟩
    · rw [evA_snoc, hB1]
      show VarB w' g1 (.bool (B1 && validI i))
      rw [← vld_I, hV]
      exact a1
    · rw [evA_snoc, hB2]
      have e : strC ⟨k, i, x.toList, n⟩ = S := by
        rw [← hS]
        unfold strC
        rw [Bool.eq_iff_iff, decide_eq_true_eq, decide_eq_true_eq]
        show x.toList.length ≤ 200 ↔ _
        omega
      rw [e]
      exact a2
    · rw [evL_snoc, hL]
      show VarB w' g3 (.int .i64 (max L lev))
      rw [hM3]
      exact a3
    · rw [evTs_snoc, List.length_append, hTl, hP]
      have e : ((T + P.length : Nat) : Int) = (T : Int) + P.length := by omega
      rw [e]
      exact a5
    · exact Nat.le_trans hsz (Nat.le_trans B0.size aM.size)
    · rw [evL_snoc, hL]
      show 0 ≤ max L lev ∧ max L lev ≤ 4000000
      omega
    · rw [evTs_snoc, List.length_append, hTl, hP, List.length_append]
      simp only [List.length_cons, List.length_nil]
      omega
    · exact (Mod.of_bel (F := F) B0).trans aM (fun i hi => Or.inl ((hF i).2 hi))
    · rintro q (hq | hq)
      · exact Or.inl ((hF q).2 (Or.inl hq))
      · rcases aF q hq with h | h
        · exact Or.inl ((hF q).2 (Or.inr h))
        · exact Or.inr (Nat.le_trans B0.size h)
  have hTlt : Hid (∀ q, Blk o q → base ≤ q ∧ q < W.heap.size) := Lib.hid fun q hq => t0.row_lt hq
  have Hm : Hid (0 ≤ m) := Lib.hid (Nat.zero_le _)
  have hTb2 : T ≤ 8000400400000 := by
    have : es.length * 2000100 ≤ 4000000 * 2000100 := Nat.mul_le_mul_right _ he
    omega
  have hwsz : w.heap.size + 2 ≤ W.heap.size := by omega
  have n1 : w.heap.size ≠ g1 := by have := hJ.v1.lt; omega
  have hlt1 := hJ.v1.lt
  have hlt2 := hJ.v2.lt
  have hlt3 := hJ.v3.lt
  have hlt4 := hV4.lt
  have hlt5 := hJ.v5.lt
  clear hJ hT hF hsW B0 hTb hf hEl hElx hP
  have HS := Lib.hid hS
  have HM3 := Lib.hid hM3
  clear hV hL hTl hM3
  cases B1 with
  | true =>
    cases B2 with
    | true =>
      have fz0 := fg1.2
      have c0 := fg1.1
      clear hB1 hB2
      obtain ⟨y0_0, y0_1, y0_2, y0_3⟩ := bc
      obtain ⟨y0_4, y0_5, y0_6⟩ := bs
      go_enter Tryz.func48, Tryz.ntmps48
      go_upto_region 1 with (fail)
      clear hW
      go_upto_region 2 with (first | (go_at_call 49; (with_reducible refine (HVal.out _).mono ?_); rintro e w' ⟨rfl, rfl⟩))
      clear c0 fz0
      obtain ⟨W1, hW1⟩ : ∃ X, W.setCell ⟨g1, 0, none⟩ (.bool V) = X := ⟨_, rfl⟩
      rw [hW1]
      have hM1 : Hid (Mod (fun q => (q = g1 ∨ q = g2 ∨ q = g3 ∨ q = g4 ∨ q = g5) ∨ Blk o q) W W1) := Lib.hid (by rw [← hW1]; exact (Mod.refl _ W).setCell (Or.inl (Or.inl (Or.inl rfl))) _)
      have a1_g1 : VarB W1 g1 (.bool V) := by rw [← hW1]; exact fg1.set _
      have a1_g2 : VarB W1 g2 (.bool true) := by rw [← hW1]; exact fg2.far _ (by omega)
      have a1_g3 : VarB W1 g3 (.int .i64 L) := by rw [← hW1]; exact fg3.far _ (by omega)
      have a1_g4 : VarB W1 g4 (.slice o m c) := by rw [← hW1]; exact fg4.far _ (by omega)
      have a1_g5 : VarB W1 g5 (.int .i64 (T : Int)) := by rw [← hW1]; exact fg5.far _ (by omega)
      have y1_0 : W1.cell? ⟨w.heap.size, 0, none⟩ = some (.int .i64 k) := by rw [← hW1]; exact (World.cell?_setCell_far W ⟨g1, 0, none⟩ ⟨w.heap.size, 0, none⟩ _ (show ¬ g1 = w.heap.size by omega)).trans y0_0
      have y1_1 : W1.cell? ⟨w.heap.size, 1, none⟩ = some (.int .i64 i) := by rw [← hW1]; exact (World.cell?_setCell_far W ⟨g1, 0, none⟩ ⟨w.heap.size, 1, none⟩ _ (show ¬ g1 = w.heap.size by omega)).trans y0_1
      have y1_2 : W1.cell? ⟨w.heap.size, 2, none⟩ = some (.string x) := by rw [← hW1]; exact (World.cell?_setCell_far W ⟨g1, 0, none⟩ ⟨w.heap.size, 2, none⟩ _ (show ¬ g1 = w.heap.size by omega)).trans y0_2
      have y1_3 : W1.cell? ⟨w.heap.size, 3, none⟩ = some (.int .i64 n) := by rw [← hW1]; exact (World.cell?_setCell_far W ⟨g1, 0, none⟩ ⟨w.heap.size, 3, none⟩ _ (show ¬ g1 = w.heap.size by omega)).trans y0_3
      have y1_4 : W1.cell? ⟨w.heap.size + 1, 0, none⟩ = some (.int .i64 lev) := by rw [← hW1]; exact (World.cell?_setCell_far W ⟨g1, 0, none⟩ ⟨w.heap.size + 1, 0, none⟩ _ (show ¬ g1 = w.heap.size + 1 by omega)).trans y0_4
      have y1_5 : W1.cell? ⟨w.heap.size + 1, 1, none⟩ = some (.int .i64 ink) := by rw [← hW1]; exact (World.cell?_setCell_far W ⟨g1, 0, none⟩ ⟨w.heap.size + 1, 1, none⟩ _ (show ¬ g1 = w.heap.size + 1 by omega)).trans y0_5
      have y1_6 : W1.cell? ⟨w.heap.size + 1, 2, none⟩ = some (.int .i64 part) := by rw [← hW1]; exact (World.cell?_setCell_far W ⟨g1, 0, none⟩ ⟨w.heap.size + 1, 2, none⟩ _ (show ¬ g1 = w.heap.size + 1 by omega)).trans y0_6
      have t1 : TxR W1 base o m c pc := by rw [← hW1]; exact t0.far _ (by omega)
      have hs1 : W.heap.size ≤ W1.heap.size := by rw [← hW1]; simp [World.setCell]
      clear t0 hW1 fg1 fg2 fg3 fg4 fg5 y0_0 y0_1 y0_2 y0_3 y0_4 y0_5 y0_6
      have fz0 := a1_g2.2
      have c0 := a1_g2.1
      go_upto_region 3 with (fail)
      clear c0 fz0
      obtain ⟨W2, hW2⟩ : ∃ X, W1.setCell ⟨g2, 0, none⟩ (.bool S) = X := ⟨_, rfl⟩
      rw [hW2]
      have hM2 : Hid (Mod (fun q => (q = g1 ∨ q = g2 ∨ q = g3 ∨ q = g4 ∨ q = g5) ∨ Blk o q) W W2) := Lib.hid (by rw [← hW2]; exact (hM1.out).setCell (Or.inl (Or.inl (Or.inr (Or.inl rfl)))) _)
      have a2_g1 : VarB W2 g1 (.bool V) := by rw [← hW2]; exact a1_g1.far _ (by omega)
      have a2_g2 : VarB W2 g2 (.bool S) := by rw [← hW2]; exact a1_g2.set _
      have a2_g3 : VarB W2 g3 (.int .i64 L) := by rw [← hW2]; exact a1_g3.far _ (by omega)
      have a2_g4 : VarB W2 g4 (.slice o m c) := by rw [← hW2]; exact a1_g4.far _ (by omega)
      have a2_g5 : VarB W2 g5 (.int .i64 (T : Int)) := by rw [← hW2]; exact a1_g5.far _ (by omega)
      have y2_0 : W2.cell? ⟨w.heap.size, 0, none⟩ = some (.int .i64 k) := by rw [← hW2]; exact (World.cell?_setCell_far W1 ⟨g2, 0, none⟩ ⟨w.heap.size, 0, none⟩ _ (show ¬ g2 = w.heap.size by omega)).trans y1_0
      have y2_1 : W2.cell? ⟨w.heap.size, 1, none⟩ = some (.int .i64 i) := by rw [← hW2]; exact (World.cell?_setCell_far W1 ⟨g2, 0, none⟩ ⟨w.heap.size, 1, none⟩ _ (show ¬ g2 = w.heap.size by omega)).trans y1_1
      have y2_2 : W2.cell? ⟨w.heap.size, 2, none⟩ = some (.string x) := by rw [← hW2]; exact (World.cell?_setCell_far W1 ⟨g2, 0, none⟩ ⟨w.heap.size, 2, none⟩ _ (show ¬ g2 = w.heap.size by omega)).trans y1_2
      have y2_3 : W2.cell? ⟨w.heap.size, 3, none⟩ = some (.int .i64 n) := by rw [← hW2]; exact (World.cell?_setCell_far W1 ⟨g2, 0, none⟩ ⟨w.heap.size, 3, none⟩ _ (show ¬ g2 = w.heap.size by omega)).trans y1_3
      have y2_4 : W2.cell? ⟨w.heap.size + 1, 0, none⟩ = some (.int .i64 lev) := by rw [← hW2]; exact (World.cell?_setCell_far W1 ⟨g2, 0, none⟩ ⟨w.heap.size + 1, 0, none⟩ _ (show ¬ g2 = w.heap.size + 1 by omega)).trans y1_4
      have y2_5 : W2.cell? ⟨w.heap.size + 1, 1, none⟩ = some (.int .i64 ink) := by rw [← hW2]; exact (World.cell?_setCell_far W1 ⟨g2, 0, none⟩ ⟨w.heap.size + 1, 1, none⟩ _ (show ¬ g2 = w.heap.size + 1 by omega)).trans y1_5
      have y2_6 : W2.cell? ⟨w.heap.size + 1, 2, none⟩ = some (.int .i64 part) := by rw [← hW2]; exact (World.cell?_setCell_far W1 ⟨g2, 0, none⟩ ⟨w.heap.size + 1, 2, none⟩ _ (show ¬ g2 = w.heap.size + 1 by omega)).trans y1_6
      have t2 : TxR W2 base o m c pc := by rw [← hW2]; exact t1.far _ (by omega)
      have hs2 : W1.heap.size ≤ W2.heap.size := by rw [← hW2]; simp [World.setCell]
      clear t1 hW2 a1_g1 a1_g2 a1_g3 a1_g4 a1_g5 y1_0 y1_1 y1_2 y1_3 y1_4 y1_5 y1_6
      have fz0 := a2_g3.2
      have c0 := a2_g3.1
      go_upto_region 4 with (fail)
      clear c0 fz0
      obtain ⟨W3, hW3⟩ : ∃ X, W2.setCell ⟨g3, 0, none⟩ (.int .i64 (max L lev)) = X := ⟨_, rfl⟩
      rw [hW3]
      have hM3 : Hid (Mod (fun q => (q = g1 ∨ q = g2 ∨ q = g3 ∨ q = g4 ∨ q = g5) ∨ Blk o q) W W3) := Lib.hid (by rw [← hW3]; exact (hM2.out).setCell (Or.inl (Or.inl (Or.inr (Or.inr (Or.inl rfl))))) _)
      have a3_g1 : VarB W3 g1 (.bool V) := by rw [← hW3]; exact a2_g1.far _ (by omega)
      have a3_g2 : VarB W3 g2 (.bool S) := by rw [← hW3]; exact a2_g2.far _ (by omega)
      have a3_g3 : VarB W3 g3 (.int .i64 (max L lev)) := by rw [← hW3]; exact a2_g3.set _
      have a3_g4 : VarB W3 g4 (.slice o m c) := by rw [← hW3]; exact a2_g4.far _ (by omega)
      have a3_g5 : VarB W3 g5 (.int .i64 (T : Int)) := by rw [← hW3]; exact a2_g5.far _ (by omega)
      have y3_0 : W3.cell? ⟨w.heap.size, 0, none⟩ = some (.int .i64 k) := by rw [← hW3]; exact (World.cell?_setCell_far W2 ⟨g3, 0, none⟩ ⟨w.heap.size, 0, none⟩ _ (show ¬ g3 = w.heap.size by omega)).trans y2_0
      have y3_1 : W3.cell? ⟨w.heap.size, 1, none⟩ = some (.int .i64 i) := by rw [← hW3]; exact (World.cell?_setCell_far W2 ⟨g3, 0, none⟩ ⟨w.heap.size, 1, none⟩ _ (show ¬ g3 = w.heap.size by omega)).trans y2_1
      have y3_2 : W3.cell? ⟨w.heap.size, 2, none⟩ = some (.string x) := by rw [← hW3]; exact (World.cell?_setCell_far W2 ⟨g3, 0, none⟩ ⟨w.heap.size, 2, none⟩ _ (show ¬ g3 = w.heap.size by omega)).trans y2_2
      have y3_3 : W3.cell? ⟨w.heap.size, 3, none⟩ = some (.int .i64 n) := by rw [← hW3]; exact (World.cell?_setCell_far W2 ⟨g3, 0, none⟩ ⟨w.heap.size, 3, none⟩ _ (show ¬ g3 = w.heap.size by omega)).trans y2_3
      have y3_4 : W3.cell? ⟨w.heap.size + 1, 0, none⟩ = some (.int .i64 lev) := by rw [← hW3]; exact (World.cell?_setCell_far W2 ⟨g3, 0, none⟩ ⟨w.heap.size + 1, 0, none⟩ _ (show ¬ g3 = w.heap.size + 1 by omega)).trans y2_4
      have y3_5 : W3.cell? ⟨w.heap.size + 1, 1, none⟩ = some (.int .i64 ink) := by rw [← hW3]; exact (World.cell?_setCell_far W2 ⟨g3, 0, none⟩ ⟨w.heap.size + 1, 1, none⟩ _ (show ¬ g3 = w.heap.size + 1 by omega)).trans y2_5
      have y3_6 : W3.cell? ⟨w.heap.size + 1, 2, none⟩ = some (.int .i64 part) := by rw [← hW3]; exact (World.cell?_setCell_far W2 ⟨g3, 0, none⟩ ⟨w.heap.size + 1, 2, none⟩ _ (show ¬ g3 = w.heap.size + 1 by omega)).trans y2_6
      have t3 : TxR W3 base o m c pc := by rw [← hW3]; exact t2.far _ (by omega)
      have hs3 : W2.heap.size ≤ W3.heap.size := by rw [← hW3]; simp [World.setCell]
      clear t2 hW3 a2_g1 a2_g2 a2_g3 a2_g4 a2_g5 y2_0 y2_1 y2_2 y2_3 y2_4 y2_5 y2_6
      have c0 := a3_g4.1
      go_still_tail 4, (by kernel_rfl)
      change wpList _ _ _ _ _ W3.drew
      obtain ⟨W4, hW4⟩ : ∃ X, W3.drew = X := ⟨_, rfl⟩
      rw [hW4]
      have B4 : Bel W3 W4 := by rw [← hW4]; exact Below.drew (Bel.refl W3)
      have ht4 := Lib.hid (t3.on B4)
      have hb4 := Lib.hid (Nat.le_trans hbW (Nat.le_trans hM3.out.size B4.size))
      have M4 : Hid (Mod (fun q => (q = g1 ∨ q = g2 ∨ q = g3 ∨ q = g4 ∨ q = g5) ∨ Blk o q) W W4) := Lib.hid (hM3.out.trans (Mod.of_bel (F := fun q => (q = g1 ∨ q = g2 ∨ q = g3 ∨ q = g4 ∨ q = g5) ∨ Blk o q) B4) (fun _ h => Or.inl h))
      have z1 := Lib.hid (a3_g1.mod (Mod.of_bel (F := fun _ => False) B4) id)
      have z2 := Lib.hid (a3_g2.mod (Mod.of_bel (F := fun _ => False) B4) id)
      have z3 := Lib.hid (a3_g3.mod (Mod.of_bel (F := fun _ => False) B4) id)
      have z4 := Lib.hid (a3_g4.mod (Mod.of_bel (F := fun _ => False) B4) id)
      have z5 := Lib.hid (a3_g5.mod (Mod.of_bel (F := fun _ => False) B4) id)
      have nb : Hid (∀ q, q < base → ¬ Blk o q) := Lib.hid fun q hq hb => by have := (hTlt.out q hb).1; omega
      clear hW4 B4 t3 c0 a3_g1 a3_g2 a3_g3 a3_g4 a3_g5 y3_0 y3_1 y3_2 y3_3 y3_4 y3_5 y3_6 hs1 hs2 hs3 hcut
      go_wp2_with fail
      refine (HTx.out _ ht4.out hb4.out).mono ?_
      rintro e w5 ⟨o', n', c', rfl, ht⟩
      have hTT := Lib.hid ht
      have u1 := Lib.hid (z1.out.mod ht.mod (nb.out _ (by omega)))
      have u2 := Lib.hid (z2.out.mod ht.mod (nb.out _ (by omega)))
      have u3 := Lib.hid (z3.out.mod ht.mod (nb.out _ (by omega)))
      have u4 := Lib.hid (z4.out.mod ht.mod (nb.out _ (by omega)))
      have u5 := Lib.hid (z5.out.mod ht.mod (nb.out _ (by omega)))
      have hn' : n' ≤ 2000060 := by have := ht.row.len; omega
      obtain ⟨W6, hW6⟩ : ∃ X, w5.setCell ⟨g4, 0, none⟩ (.slice o' n' c') = X := ⟨_, rfl⟩
      have fz4 := u4.out.2
      have c0 := u4.out.1
      have s1 : Hid (VarB W6 g1 (.bool V)) := Lib.hid (by rw [← hW6]; exact u1.out.far _ (by omega))
      have s2 : Hid (VarB W6 g2 (.bool S)) := Lib.hid (by rw [← hW6]; exact u2.out.far _ (by omega))
      have s3 : Hid (VarB W6 g3 (.int .i64 (max L lev))) := Lib.hid (by rw [← hW6]; exact u3.out.far _ (by omega))
      have s4 : Hid (VarB W6 g4 (.slice o' n' c')) := Lib.hid (by rw [← hW6]; exact u4.out.set _)
      have s5 : Hid (VarB W6 g5 (.int .i64 (T : Int))) := Lib.hid (by rw [← hW6]; exact u5.out.far _ (by omega))
      have sT : Hid (TxR W6 base o' n' c' P) := Lib.hid (by rw [← hW6]; exact hTT.out.row.far _ (by omega))
      have M6 : Hid (Mod (fun q => (q = g1 ∨ q = g2 ∨ q = g3 ∨ q = g4 ∨ q = g5) ∨ Blk o q) W W6) := Lib.hid (by
        rw [← hW6]
        exact (M4.out.trans ht.mod (fun q hq => Or.inl (Or.inr hq))).setCell (Or.inl (Or.inl (Or.inr (Or.inr (Or.inr (Or.inl rfl)))))) _)
      have at6 : Hid (∀ k, Blk o' k → Blk o k ∨ W.heap.size ≤ k) := Lib.hid fun q hq => by
        rcases ht.at_ q hq with h | h
        · exact Or.inl h
        · exact Or.inr (Nat.le_trans M4.out.size h)
      clear ht
      go_upto_region 5 with (fail)
      clear hW6 fz4 c0
      have c4 := s4.out.1
      have c5 := s5.out.1
      have fz5 := s5.out.2
      go_wp2
      ((try simp only [Exit.inBlock, Exit.then]); first | (refine bodyPost_end (results_none rfl _ _ _) rfl ?_) | (refine bodyPost_ret (results_none rfl _ _ _) rfl ?_))
      have hPn := sT.out.len
      refine ⟨rfl, hend.out _ o' n' c' (by simpa using s1.out.far _ (by omega)) (by simpa using s2.out.far _ (by omega)) (by rw [← HM3.out]; exact s3.out.far _ (by omega)) (by rw [hPn]; exact s5.out.set _) (sT.out.far _ (by omega)) (s4.out.far _ (by omega)) (M6.out.setCell (Or.inl (Or.inl (Or.inr (Or.inr (Or.inr (Or.inr rfl)))))) _) at6.out⟩
    | false =>
      have fz0 := fg1.2
      have c0 := fg1.1
      clear hB1 hB2
      obtain ⟨y0_0, y0_1, y0_2, y0_3⟩ := bc
      obtain ⟨y0_4, y0_5, y0_6⟩ := bs
      go_enter Tryz.func48, Tryz.ntmps48
      go_upto_region 1 with (fail)
      clear hW
      go_upto_region 2 with (first | (go_at_call 49; (with_reducible refine (HVal.out _).mono ?_); rintro e w' ⟨rfl, rfl⟩))
      clear c0 fz0
      obtain ⟨W1, hW1⟩ : ∃ X, W.setCell ⟨g1, 0, none⟩ (.bool V) = X := ⟨_, rfl⟩
      rw [hW1]
      have hM1 : Hid (Mod (fun q => (q = g1 ∨ q = g2 ∨ q = g3 ∨ q = g4 ∨ q = g5) ∨ Blk o q) W W1) := Lib.hid (by rw [← hW1]; exact (Mod.refl _ W).setCell (Or.inl (Or.inl (Or.inl rfl))) _)
      have a1_g1 : VarB W1 g1 (.bool V) := by rw [← hW1]; exact fg1.set _
      have a1_g2 : VarB W1 g2 (.bool false) := by rw [← hW1]; exact fg2.far _ (by omega)
      have a1_g3 : VarB W1 g3 (.int .i64 L) := by rw [← hW1]; exact fg3.far _ (by omega)
      have a1_g4 : VarB W1 g4 (.slice o m c) := by rw [← hW1]; exact fg4.far _ (by omega)
      have a1_g5 : VarB W1 g5 (.int .i64 (T : Int)) := by rw [← hW1]; exact fg5.far _ (by omega)
      have y1_0 : W1.cell? ⟨w.heap.size, 0, none⟩ = some (.int .i64 k) := by rw [← hW1]; exact (World.cell?_setCell_far W ⟨g1, 0, none⟩ ⟨w.heap.size, 0, none⟩ _ (show ¬ g1 = w.heap.size by omega)).trans y0_0
      have y1_1 : W1.cell? ⟨w.heap.size, 1, none⟩ = some (.int .i64 i) := by rw [← hW1]; exact (World.cell?_setCell_far W ⟨g1, 0, none⟩ ⟨w.heap.size, 1, none⟩ _ (show ¬ g1 = w.heap.size by omega)).trans y0_1
      have y1_2 : W1.cell? ⟨w.heap.size, 2, none⟩ = some (.string x) := by rw [← hW1]; exact (World.cell?_setCell_far W ⟨g1, 0, none⟩ ⟨w.heap.size, 2, none⟩ _ (show ¬ g1 = w.heap.size by omega)).trans y0_2
      have y1_3 : W1.cell? ⟨w.heap.size, 3, none⟩ = some (.int .i64 n) := by rw [← hW1]; exact (World.cell?_setCell_far W ⟨g1, 0, none⟩ ⟨w.heap.size, 3, none⟩ _ (show ¬ g1 = w.heap.size by omega)).trans y0_3
      have y1_4 : W1.cell? ⟨w.heap.size + 1, 0, none⟩ = some (.int .i64 lev) := by rw [← hW1]; exact (World.cell?_setCell_far W ⟨g1, 0, none⟩ ⟨w.heap.size + 1, 0, none⟩ _ (show ¬ g1 = w.heap.size + 1 by omega)).trans y0_4
      have y1_5 : W1.cell? ⟨w.heap.size + 1, 1, none⟩ = some (.int .i64 ink) := by rw [← hW1]; exact (World.cell?_setCell_far W ⟨g1, 0, none⟩ ⟨w.heap.size + 1, 1, none⟩ _ (show ¬ g1 = w.heap.size + 1 by omega)).trans y0_5
      have y1_6 : W1.cell? ⟨w.heap.size + 1, 2, none⟩ = some (.int .i64 part) := by rw [← hW1]; exact (World.cell?_setCell_far W ⟨g1, 0, none⟩ ⟨w.heap.size + 1, 2, none⟩ _ (show ¬ g1 = w.heap.size + 1 by omega)).trans y0_6
      have t1 : TxR W1 base o m c pc := by rw [← hW1]; exact t0.far _ (by omega)
      have hs1 : W.heap.size ≤ W1.heap.size := by rw [← hW1]; simp [World.setCell]
      clear t0 hW1 fg1 fg2 fg3 fg4 fg5 y0_0 y0_1 y0_2 y0_3 y0_4 y0_5 y0_6
      have fz0 := a1_g2.2
      have c0 := a1_g2.1
      go_upto_region 3 with (fail)
      clear c0 fz0
      obtain ⟨W2, hW2⟩ : ∃ X, W1.setCell ⟨g2, 0, none⟩ (.bool false) = X := ⟨_, rfl⟩
      rw [hW2]
      have hM2 : Hid (Mod (fun q => (q = g1 ∨ q = g2 ∨ q = g3 ∨ q = g4 ∨ q = g5) ∨ Blk o q) W W2) := Lib.hid (by rw [← hW2]; exact (hM1.out).setCell (Or.inl (Or.inl (Or.inr (Or.inl rfl)))) _)
      have a2_g1 : VarB W2 g1 (.bool V) := by rw [← hW2]; exact a1_g1.far _ (by omega)
      have a2_g2 : VarB W2 g2 (.bool false) := by rw [← hW2]; exact a1_g2.set _
      have a2_g3 : VarB W2 g3 (.int .i64 L) := by rw [← hW2]; exact a1_g3.far _ (by omega)
      have a2_g4 : VarB W2 g4 (.slice o m c) := by rw [← hW2]; exact a1_g4.far _ (by omega)
      have a2_g5 : VarB W2 g5 (.int .i64 (T : Int)) := by rw [← hW2]; exact a1_g5.far _ (by omega)
      have y2_0 : W2.cell? ⟨w.heap.size, 0, none⟩ = some (.int .i64 k) := by rw [← hW2]; exact (World.cell?_setCell_far W1 ⟨g2, 0, none⟩ ⟨w.heap.size, 0, none⟩ _ (show ¬ g2 = w.heap.size by omega)).trans y1_0
      have y2_1 : W2.cell? ⟨w.heap.size, 1, none⟩ = some (.int .i64 i) := by rw [← hW2]; exact (World.cell?_setCell_far W1 ⟨g2, 0, none⟩ ⟨w.heap.size, 1, none⟩ _ (show ¬ g2 = w.heap.size by omega)).trans y1_1
      have y2_2 : W2.cell? ⟨w.heap.size, 2, none⟩ = some (.string x) := by rw [← hW2]; exact (World.cell?_setCell_far W1 ⟨g2, 0, none⟩ ⟨w.heap.size, 2, none⟩ _ (show ¬ g2 = w.heap.size by omega)).trans y1_2
      have y2_3 : W2.cell? ⟨w.heap.size, 3, none⟩ = some (.int .i64 n) := by rw [← hW2]; exact (World.cell?_setCell_far W1 ⟨g2, 0, none⟩ ⟨w.heap.size, 3, none⟩ _ (show ¬ g2 = w.heap.size by omega)).trans y1_3
      have y2_4 : W2.cell? ⟨w.heap.size + 1, 0, none⟩ = some (.int .i64 lev) := by rw [← hW2]; exact (World.cell?_setCell_far W1 ⟨g2, 0, none⟩ ⟨w.heap.size + 1, 0, none⟩ _ (show ¬ g2 = w.heap.size + 1 by omega)).trans y1_4
      have y2_5 : W2.cell? ⟨w.heap.size + 1, 1, none⟩ = some (.int .i64 ink) := by rw [← hW2]; exact (World.cell?_setCell_far W1 ⟨g2, 0, none⟩ ⟨w.heap.size + 1, 1, none⟩ _ (show ¬ g2 = w.heap.size + 1 by omega)).trans y1_5
      have y2_6 : W2.cell? ⟨w.heap.size + 1, 2, none⟩ = some (.int .i64 part) := by rw [← hW2]; exact (World.cell?_setCell_far W1 ⟨g2, 0, none⟩ ⟨w.heap.size + 1, 2, none⟩ _ (show ¬ g2 = w.heap.size + 1 by omega)).trans y1_6
      have t2 : TxR W2 base o m c pc := by rw [← hW2]; exact t1.far _ (by omega)
      have hs2 : W1.heap.size ≤ W2.heap.size := by rw [← hW2]; simp [World.setCell]
      clear t1 hW2 a1_g1 a1_g2 a1_g3 a1_g4 a1_g5 y1_0 y1_1 y1_2 y1_3 y1_4 y1_5 y1_6
      have fz0 := a2_g3.2
      have c0 := a2_g3.1
      go_upto_region 4 with (fail)
      clear c0 fz0
      obtain ⟨W3, hW3⟩ : ∃ X, W2.setCell ⟨g3, 0, none⟩ (.int .i64 (max L lev)) = X := ⟨_, rfl⟩
      rw [hW3]
      have hM3 : Hid (Mod (fun q => (q = g1 ∨ q = g2 ∨ q = g3 ∨ q = g4 ∨ q = g5) ∨ Blk o q) W W3) := Lib.hid (by rw [← hW3]; exact (hM2.out).setCell (Or.inl (Or.inl (Or.inr (Or.inr (Or.inl rfl))))) _)
      have a3_g1 : VarB W3 g1 (.bool V) := by rw [← hW3]; exact a2_g1.far _ (by omega)
      have a3_g2 : VarB W3 g2 (.bool false) := by rw [← hW3]; exact a2_g2.far _ (by omega)
      have a3_g3 : VarB W3 g3 (.int .i64 (max L lev)) := by rw [← hW3]; exact a2_g3.set _
      have a3_g4 : VarB W3 g4 (.slice o m c) := by rw [← hW3]; exact a2_g4.far _ (by omega)
      have a3_g5 : VarB W3 g5 (.int .i64 (T : Int)) := by rw [← hW3]; exact a2_g5.far _ (by omega)
      have y3_0 : W3.cell? ⟨w.heap.size, 0, none⟩ = some (.int .i64 k) := by rw [← hW3]; exact (World.cell?_setCell_far W2 ⟨g3, 0, none⟩ ⟨w.heap.size, 0, none⟩ _ (show ¬ g3 = w.heap.size by omega)).trans y2_0
      have y3_1 : W3.cell? ⟨w.heap.size, 1, none⟩ = some (.int .i64 i) := by rw [← hW3]; exact (World.cell?_setCell_far W2 ⟨g3, 0, none⟩ ⟨w.heap.size, 1, none⟩ _ (show ¬ g3 = w.heap.size by omega)).trans y2_1
      have y3_2 : W3.cell? ⟨w.heap.size, 2, none⟩ = some (.string x) := by rw [← hW3]; exact (World.cell?_setCell_far W2 ⟨g3, 0, none⟩ ⟨w.heap.size, 2, none⟩ _ (show ¬ g3 = w.heap.size by omega)).trans y2_2
      have y3_3 : W3.cell? ⟨w.heap.size, 3, none⟩ = some (.int .i64 n) := by rw [← hW3]; exact (World.cell?_setCell_far W2 ⟨g3, 0, none⟩ ⟨w.heap.size, 3, none⟩ _ (show ¬ g3 = w.heap.size by omega)).trans y2_3
      have y3_4 : W3.cell? ⟨w.heap.size + 1, 0, none⟩ = some (.int .i64 lev) := by rw [← hW3]; exact (World.cell?_setCell_far W2 ⟨g3, 0, none⟩ ⟨w.heap.size + 1, 0, none⟩ _ (show ¬ g3 = w.heap.size + 1 by omega)).trans y2_4
      have y3_5 : W3.cell? ⟨w.heap.size + 1, 1, none⟩ = some (.int .i64 ink) := by rw [← hW3]; exact (World.cell?_setCell_far W2 ⟨g3, 0, none⟩ ⟨w.heap.size + 1, 1, none⟩ _ (show ¬ g3 = w.heap.size + 1 by omega)).trans y2_5
      have y3_6 : W3.cell? ⟨w.heap.size + 1, 2, none⟩ = some (.int .i64 part) := by rw [← hW3]; exact (World.cell?_setCell_far W2 ⟨g3, 0, none⟩ ⟨w.heap.size + 1, 2, none⟩ _ (show ¬ g3 = w.heap.size + 1 by omega)).trans y2_6
      have t3 : TxR W3 base o m c pc := by rw [← hW3]; exact t2.far _ (by omega)
      have hs3 : W2.heap.size ≤ W3.heap.size := by rw [← hW3]; simp [World.setCell]
      clear t2 hW3 a2_g1 a2_g2 a2_g3 a2_g4 a2_g5 y2_0 y2_1 y2_2 y2_3 y2_4 y2_5 y2_6
      have c0 := a3_g4.1
      go_still_tail 4, (by kernel_rfl)
      change wpList _ _ _ _ _ W3.drew
      obtain ⟨W4, hW4⟩ : ∃ X, W3.drew = X := ⟨_, rfl⟩
      rw [hW4]
      have B4 : Bel W3 W4 := by rw [← hW4]; exact Below.drew (Bel.refl W3)
      have ht4 := Lib.hid (t3.on B4)
      have hb4 := Lib.hid (Nat.le_trans hbW (Nat.le_trans hM3.out.size B4.size))
      have M4 : Hid (Mod (fun q => (q = g1 ∨ q = g2 ∨ q = g3 ∨ q = g4 ∨ q = g5) ∨ Blk o q) W W4) := Lib.hid (hM3.out.trans (Mod.of_bel (F := fun q => (q = g1 ∨ q = g2 ∨ q = g3 ∨ q = g4 ∨ q = g5) ∨ Blk o q) B4) (fun _ h => Or.inl h))
      have z1 := Lib.hid (a3_g1.mod (Mod.of_bel (F := fun _ => False) B4) id)
      have z2 := Lib.hid (a3_g2.mod (Mod.of_bel (F := fun _ => False) B4) id)
      have z3 := Lib.hid (a3_g3.mod (Mod.of_bel (F := fun _ => False) B4) id)
      have z4 := Lib.hid (a3_g4.mod (Mod.of_bel (F := fun _ => False) B4) id)
      have z5 := Lib.hid (a3_g5.mod (Mod.of_bel (F := fun _ => False) B4) id)
      have nb : Hid (∀ q, q < base → ¬ Blk o q) := Lib.hid fun q hq hb => by have := (hTlt.out q hb).1; omega
      clear hW4 B4 t3 c0 a3_g1 a3_g2 a3_g3 a3_g4 a3_g5 y3_0 y3_1 y3_2 y3_3 y3_4 y3_5 y3_6 hs1 hs2 hs3 hcut
      go_wp2_with fail
      refine (HTx.out _ ht4.out hb4.out).mono ?_
      rintro e w5 ⟨o', n', c', rfl, ht⟩
      have hTT := Lib.hid ht
      have u1 := Lib.hid (z1.out.mod ht.mod (nb.out _ (by omega)))
      have u2 := Lib.hid (z2.out.mod ht.mod (nb.out _ (by omega)))
      have u3 := Lib.hid (z3.out.mod ht.mod (nb.out _ (by omega)))
      have u4 := Lib.hid (z4.out.mod ht.mod (nb.out _ (by omega)))
      have u5 := Lib.hid (z5.out.mod ht.mod (nb.out _ (by omega)))
      have hn' : n' ≤ 2000060 := by have := ht.row.len; omega
      obtain ⟨W6, hW6⟩ : ∃ X, w5.setCell ⟨g4, 0, none⟩ (.slice o' n' c') = X := ⟨_, rfl⟩
      have fz4 := u4.out.2
      have c0 := u4.out.1
      have s1 : Hid (VarB W6 g1 (.bool V)) := Lib.hid (by rw [← hW6]; exact u1.out.far _ (by omega))
      have s2 : Hid (VarB W6 g2 (.bool false)) := Lib.hid (by rw [← hW6]; exact u2.out.far _ (by omega))
      have s3 : Hid (VarB W6 g3 (.int .i64 (max L lev))) := Lib.hid (by rw [← hW6]; exact u3.out.far _ (by omega))
      have s4 : Hid (VarB W6 g4 (.slice o' n' c')) := Lib.hid (by rw [← hW6]; exact u4.out.set _)
      have s5 : Hid (VarB W6 g5 (.int .i64 (T : Int))) := Lib.hid (by rw [← hW6]; exact u5.out.far _ (by omega))
      have sT : Hid (TxR W6 base o' n' c' P) := Lib.hid (by rw [← hW6]; exact hTT.out.row.far _ (by omega))
      have M6 : Hid (Mod (fun q => (q = g1 ∨ q = g2 ∨ q = g3 ∨ q = g4 ∨ q = g5) ∨ Blk o q) W W6) := Lib.hid (by
        rw [← hW6]
        exact (M4.out.trans ht.mod (fun q hq => Or.inl (Or.inr hq))).setCell (Or.inl (Or.inl (Or.inr (Or.inr (Or.inr (Or.inl rfl)))))) _)
      have at6 : Hid (∀ k, Blk o' k → Blk o k ∨ W.heap.size ≤ k) := Lib.hid fun q hq => by
        rcases ht.at_ q hq with h | h
        · exact Or.inl h
        · exact Or.inr (Nat.le_trans M4.out.size h)
      clear ht
      go_upto_region 5 with (fail)
      clear hW6 fz4 c0
      have c4 := s4.out.1
      have c5 := s5.out.1
      have fz5 := s5.out.2
      go_wp2
      ((try simp only [Exit.inBlock, Exit.then]); first | (refine bodyPost_end (results_none rfl _ _ _) rfl ?_) | (refine bodyPost_ret (results_none rfl _ _ _) rfl ?_))
      have hPn := sT.out.len
      refine ⟨rfl, hend.out _ o' n' c' (by simpa using s1.out.far _ (by omega)) (by simpa using s2.out.far _ (by omega)) (by rw [← HM3.out]; exact s3.out.far _ (by omega)) (by rw [hPn]; exact s5.out.set _) (sT.out.far _ (by omega)) (s4.out.far _ (by omega)) (M6.out.setCell (Or.inl (Or.inl (Or.inr (Or.inr (Or.inr (Or.inr rfl)))))) _) at6.out⟩
  | false =>
    cases B2 with
    | true =>
      have fz0 := fg1.2
      have c0 := fg1.1
      clear hB1 hB2
      obtain ⟨y0_0, y0_1, y0_2, y0_3⟩ := bc
      obtain ⟨y0_4, y0_5, y0_6⟩ := bs
      go_enter Tryz.func48, Tryz.ntmps48
      go_upto_region 1 with (fail)
      clear hW
      go_upto_region 2 with (first | (go_at_call 49; (with_reducible refine (HVal.out _).mono ?_); rintro e w' ⟨rfl, rfl⟩))
      clear c0 fz0
      obtain ⟨W1, hW1⟩ : ∃ X, W.setCell ⟨g1, 0, none⟩ (.bool false) = X := ⟨_, rfl⟩
      rw [hW1]
      have hM1 : Hid (Mod (fun q => (q = g1 ∨ q = g2 ∨ q = g3 ∨ q = g4 ∨ q = g5) ∨ Blk o q) W W1) := Lib.hid (by rw [← hW1]; exact (Mod.refl _ W).setCell (Or.inl (Or.inl (Or.inl rfl))) _)
      have a1_g1 : VarB W1 g1 (.bool false) := by rw [← hW1]; exact fg1.set _
      have a1_g2 : VarB W1 g2 (.bool true) := by rw [← hW1]; exact fg2.far _ (by omega)
      have a1_g3 : VarB W1 g3 (.int .i64 L) := by rw [← hW1]; exact fg3.far _ (by omega)
      have a1_g4 : VarB W1 g4 (.slice o m c) := by rw [← hW1]; exact fg4.far _ (by omega)
      have a1_g5 : VarB W1 g5 (.int .i64 (T : Int)) := by rw [← hW1]; exact fg5.far _ (by omega)
      have y1_0 : W1.cell? ⟨w.heap.size, 0, none⟩ = some (.int .i64 k) := by rw [← hW1]; exact (World.cell?_setCell_far W ⟨g1, 0, none⟩ ⟨w.heap.size, 0, none⟩ _ (show ¬ g1 = w.heap.size by omega)).trans y0_0
      have y1_1 : W1.cell? ⟨w.heap.size, 1, none⟩ = some (.int .i64 i) := by rw [← hW1]; exact (World.cell?_setCell_far W ⟨g1, 0, none⟩ ⟨w.heap.size, 1, none⟩ _ (show ¬ g1 = w.heap.size by omega)).trans y0_1
      have y1_2 : W1.cell? ⟨w.heap.size, 2, none⟩ = some (.string x) := by rw [← hW1]; exact (World.cell?_setCell_far W ⟨g1, 0, none⟩ ⟨w.heap.size, 2, none⟩ _ (show ¬ g1 = w.heap.size by omega)).trans y0_2
      have y1_3 : W1.cell? ⟨w.heap.size, 3, none⟩ = some (.int .i64 n) := by rw [← hW1]; exact (World.cell?_setCell_far W ⟨g1, 0, none⟩ ⟨w.heap.size, 3, none⟩ _ (show ¬ g1 = w.heap.size by omega)).trans y0_3
      have y1_4 : W1.cell? ⟨w.heap.size + 1, 0, none⟩ = some (.int .i64 lev) := by rw [← hW1]; exact (World.cell?_setCell_far W ⟨g1, 0, none⟩ ⟨w.heap.size + 1, 0, none⟩ _ (show ¬ g1 = w.heap.size + 1 by omega)).trans y0_4
      have y1_5 : W1.cell? ⟨w.heap.size + 1, 1, none⟩ = some (.int .i64 ink) := by rw [← hW1]; exact (World.cell?_setCell_far W ⟨g1, 0, none⟩ ⟨w.heap.size + 1, 1, none⟩ _ (show ¬ g1 = w.heap.size + 1 by omega)).trans y0_5
      have y1_6 : W1.cell? ⟨w.heap.size + 1, 2, none⟩ = some (.int .i64 part) := by rw [← hW1]; exact (World.cell?_setCell_far W ⟨g1, 0, none⟩ ⟨w.heap.size + 1, 2, none⟩ _ (show ¬ g1 = w.heap.size + 1 by omega)).trans y0_6
      have t1 : TxR W1 base o m c pc := by rw [← hW1]; exact t0.far _ (by omega)
      have hs1 : W.heap.size ≤ W1.heap.size := by rw [← hW1]; simp [World.setCell]
      clear t0 hW1 fg1 fg2 fg3 fg4 fg5 y0_0 y0_1 y0_2 y0_3 y0_4 y0_5 y0_6
      have fz0 := a1_g2.2
      have c0 := a1_g2.1
      go_upto_region 3 with (fail)
      clear c0 fz0
      obtain ⟨W2, hW2⟩ : ∃ X, W1.setCell ⟨g2, 0, none⟩ (.bool S) = X := ⟨_, rfl⟩
      rw [hW2]
      have hM2 : Hid (Mod (fun q => (q = g1 ∨ q = g2 ∨ q = g3 ∨ q = g4 ∨ q = g5) ∨ Blk o q) W W2) := Lib.hid (by rw [← hW2]; exact (hM1.out).setCell (Or.inl (Or.inl (Or.inr (Or.inl rfl)))) _)
      have a2_g1 : VarB W2 g1 (.bool false) := by rw [← hW2]; exact a1_g1.far _ (by omega)
      have a2_g2 : VarB W2 g2 (.bool S) := by rw [← hW2]; exact a1_g2.set _
      have a2_g3 : VarB W2 g3 (.int .i64 L) := by rw [← hW2]; exact a1_g3.far _ (by omega)
      have a2_g4 : VarB W2 g4 (.slice o m c) := by rw [← hW2]; exact a1_g4.far _ (by omega)
      have a2_g5 : VarB W2 g5 (.int .i64 (T : Int)) := by rw [← hW2]; exact a1_g5.far _ (by omega)
      have y2_0 : W2.cell? ⟨w.heap.size, 0, none⟩ = some (.int .i64 k) := by rw [← hW2]; exact (World.cell?_setCell_far W1 ⟨g2, 0, none⟩ ⟨w.heap.size, 0, none⟩ _ (show ¬ g2 = w.heap.size by omega)).trans y1_0
      have y2_1 : W2.cell? ⟨w.heap.size, 1, none⟩ = some (.int .i64 i) := by rw [← hW2]; exact (World.cell?_setCell_far W1 ⟨g2, 0, none⟩ ⟨w.heap.size, 1, none⟩ _ (show ¬ g2 = w.heap.size by omega)).trans y1_1
      have y2_2 : W2.cell? ⟨w.heap.size, 2, none⟩ = some (.string x) := by rw [← hW2]; exact (World.cell?_setCell_far W1 ⟨g2, 0, none⟩ ⟨w.heap.size, 2, none⟩ _ (show ¬ g2 = w.heap.size by omega)).trans y1_2
      have y2_3 : W2.cell? ⟨w.heap.size, 3, none⟩ = some (.int .i64 n) := by rw [← hW2]; exact (World.cell?_setCell_far W1 ⟨g2, 0, none⟩ ⟨w.heap.size, 3, none⟩ _ (show ¬ g2 = w.heap.size by omega)).trans y1_3
      have y2_4 : W2.cell? ⟨w.heap.size + 1, 0, none⟩ = some (.int .i64 lev) := by rw [← hW2]; exact (World.cell?_setCell_far W1 ⟨g2, 0, none⟩ ⟨w.heap.size + 1, 0, none⟩ _ (show ¬ g2 = w.heap.size + 1 by omega)).trans y1_4
      have y2_5 : W2.cell? ⟨w.heap.size + 1, 1, none⟩ = some (.int .i64 ink) := by rw [← hW2]; exact (World.cell?_setCell_far W1 ⟨g2, 0, none⟩ ⟨w.heap.size + 1, 1, none⟩ _ (show ¬ g2 = w.heap.size + 1 by omega)).trans y1_5
      have y2_6 : W2.cell? ⟨w.heap.size + 1, 2, none⟩ = some (.int .i64 part) := by rw [← hW2]; exact (World.cell?_setCell_far W1 ⟨g2, 0, none⟩ ⟨w.heap.size + 1, 2, none⟩ _ (show ¬ g2 = w.heap.size + 1 by omega)).trans y1_6
      have t2 : TxR W2 base o m c pc := by rw [← hW2]; exact t1.far _ (by omega)
      have hs2 : W1.heap.size ≤ W2.heap.size := by rw [← hW2]; simp [World.setCell]
      clear t1 hW2 a1_g1 a1_g2 a1_g3 a1_g4 a1_g5 y1_0 y1_1 y1_2 y1_3 y1_4 y1_5 y1_6
      have fz0 := a2_g3.2
      have c0 := a2_g3.1
      go_upto_region 4 with (fail)
      clear c0 fz0
      obtain ⟨W3, hW3⟩ : ∃ X, W2.setCell ⟨g3, 0, none⟩ (.int .i64 (max L lev)) = X := ⟨_, rfl⟩
      rw [hW3]
      have hM3 : Hid (Mod (fun q => (q = g1 ∨ q = g2 ∨ q = g3 ∨ q = g4 ∨ q = g5) ∨ Blk o q) W W3) := Lib.hid (by rw [← hW3]; exact (hM2.out).setCell (Or.inl (Or.inl (Or.inr (Or.inr (Or.inl rfl))))) _)
      have a3_g1 : VarB W3 g1 (.bool false) := by rw [← hW3]; exact a2_g1.far _ (by omega)
      have a3_g2 : VarB W3 g2 (.bool S) := by rw [← hW3]; exact a2_g2.far _ (by omega)
      have a3_g3 : VarB W3 g3 (.int .i64 (max L lev)) := by rw [← hW3]; exact a2_g3.set _
      have a3_g4 : VarB W3 g4 (.slice o m c) := by rw [← hW3]; exact a2_g4.far _ (by omega)
      have a3_g5 : VarB W3 g5 (.int .i64 (T : Int)) := by rw [← hW3]; exact a2_g5.far _ (by omega)
      have y3_0 : W3.cell? ⟨w.heap.size, 0, none⟩ = some (.int .i64 k) := by rw [← hW3]; exact (World.cell?_setCell_far W2 ⟨g3, 0, none⟩ ⟨w.heap.size, 0, none⟩ _ (show ¬ g3 = w.heap.size by omega)).trans y2_0
      have y3_1 : W3.cell? ⟨w.heap.size, 1, none⟩ = some (.int .i64 i) := by rw [← hW3]; exact (World.cell?_setCell_far W2 ⟨g3, 0, none⟩ ⟨w.heap.size, 1, none⟩ _ (show ¬ g3 = w.heap.size by omega)).trans y2_1
      have y3_2 : W3.cell? ⟨w.heap.size, 2, none⟩ = some (.string x) := by rw [← hW3]; exact (World.cell?_setCell_far W2 ⟨g3, 0, none⟩ ⟨w.heap.size, 2, none⟩ _ (show ¬ g3 = w.heap.size by omega)).trans y2_2
      have y3_3 : W3.cell? ⟨w.heap.size, 3, none⟩ = some (.int .i64 n) := by rw [← hW3]; exact (World.cell?_setCell_far W2 ⟨g3, 0, none⟩ ⟨w.heap.size, 3, none⟩ _ (show ¬ g3 = w.heap.size by omega)).trans y2_3
      have y3_4 : W3.cell? ⟨w.heap.size + 1, 0, none⟩ = some (.int .i64 lev) := by rw [← hW3]; exact (World.cell?_setCell_far W2 ⟨g3, 0, none⟩ ⟨w.heap.size + 1, 0, none⟩ _ (show ¬ g3 = w.heap.size + 1 by omega)).trans y2_4
      have y3_5 : W3.cell? ⟨w.heap.size + 1, 1, none⟩ = some (.int .i64 ink) := by rw [← hW3]; exact (World.cell?_setCell_far W2 ⟨g3, 0, none⟩ ⟨w.heap.size + 1, 1, none⟩ _ (show ¬ g3 = w.heap.size + 1 by omega)).trans y2_5
      have y3_6 : W3.cell? ⟨w.heap.size + 1, 2, none⟩ = some (.int .i64 part) := by rw [← hW3]; exact (World.cell?_setCell_far W2 ⟨g3, 0, none⟩ ⟨w.heap.size + 1, 2, none⟩ _ (show ¬ g3 = w.heap.size + 1 by omega)).trans y2_6
      have t3 : TxR W3 base o m c pc := by rw [← hW3]; exact t2.far _ (by omega)
      have hs3 : W2.heap.size ≤ W3.heap.size := by rw [← hW3]; simp [World.setCell]
      clear t2 hW3 a2_g1 a2_g2 a2_g3 a2_g4 a2_g5 y2_0 y2_1 y2_2 y2_3 y2_4 y2_5 y2_6
      have c0 := a3_g4.1
      go_still_tail 4, (by kernel_rfl)
      change wpList _ _ _ _ _ W3.drew
      obtain ⟨W4, hW4⟩ : ∃ X, W3.drew = X := ⟨_, rfl⟩
      rw [hW4]
      have B4 : Bel W3 W4 := by rw [← hW4]; exact Below.drew (Bel.refl W3)
      have ht4 := Lib.hid (t3.on B4)
      have hb4 := Lib.hid (Nat.le_trans hbW (Nat.le_trans hM3.out.size B4.size))
      have M4 : Hid (Mod (fun q => (q = g1 ∨ q = g2 ∨ q = g3 ∨ q = g4 ∨ q = g5) ∨ Blk o q) W W4) := Lib.hid (hM3.out.trans (Mod.of_bel (F := fun q => (q = g1 ∨ q = g2 ∨ q = g3 ∨ q = g4 ∨ q = g5) ∨ Blk o q) B4) (fun _ h => Or.inl h))
      have z1 := Lib.hid (a3_g1.mod (Mod.of_bel (F := fun _ => False) B4) id)
      have z2 := Lib.hid (a3_g2.mod (Mod.of_bel (F := fun _ => False) B4) id)
      have z3 := Lib.hid (a3_g3.mod (Mod.of_bel (F := fun _ => False) B4) id)
      have z4 := Lib.hid (a3_g4.mod (Mod.of_bel (F := fun _ => False) B4) id)
      have z5 := Lib.hid (a3_g5.mod (Mod.of_bel (F := fun _ => False) B4) id)
      have nb : Hid (∀ q, q < base → ¬ Blk o q) := Lib.hid fun q hq hb => by have := (hTlt.out q hb).1; omega
      clear hW4 B4 t3 c0 a3_g1 a3_g2 a3_g3 a3_g4 a3_g5 y3_0 y3_1 y3_2 y3_3 y3_4 y3_5 y3_6 hs1 hs2 hs3 hcut
      go_wp2_with fail
      refine (HTx.out _ ht4.out hb4.out).mono ?_
      rintro e w5 ⟨o', n', c', rfl, ht⟩
      have hTT := Lib.hid ht
      have u1 := Lib.hid (z1.out.mod ht.mod (nb.out _ (by omega)))
      have u2 := Lib.hid (z2.out.mod ht.mod (nb.out _ (by omega)))
      have u3 := Lib.hid (z3.out.mod ht.mod (nb.out _ (by omega)))
      have u4 := Lib.hid (z4.out.mod ht.mod (nb.out _ (by omega)))
      have u5 := Lib.hid (z5.out.mod ht.mod (nb.out _ (by omega)))
      have hn' : n' ≤ 2000060 := by have := ht.row.len; omega
      obtain ⟨W6, hW6⟩ : ∃ X, w5.setCell ⟨g4, 0, none⟩ (.slice o' n' c') = X := ⟨_, rfl⟩
      have fz4 := u4.out.2
      have c0 := u4.out.1
      have s1 : Hid (VarB W6 g1 (.bool false)) := Lib.hid (by rw [← hW6]; exact u1.out.far _ (by omega))
      have s2 : Hid (VarB W6 g2 (.bool S)) := Lib.hid (by rw [← hW6]; exact u2.out.far _ (by omega))
      have s3 : Hid (VarB W6 g3 (.int .i64 (max L lev))) := Lib.hid (by rw [← hW6]; exact u3.out.far _ (by omega))
      have s4 : Hid (VarB W6 g4 (.slice o' n' c')) := Lib.hid (by rw [← hW6]; exact u4.out.set _)
      have s5 : Hid (VarB W6 g5 (.int .i64 (T : Int))) := Lib.hid (by rw [← hW6]; exact u5.out.far _ (by omega))
      have sT : Hid (TxR W6 base o' n' c' P) := Lib.hid (by rw [← hW6]; exact hTT.out.row.far _ (by omega))
      have M6 : Hid (Mod (fun q => (q = g1 ∨ q = g2 ∨ q = g3 ∨ q = g4 ∨ q = g5) ∨ Blk o q) W W6) := Lib.hid (by
        rw [← hW6]
        exact (M4.out.trans ht.mod (fun q hq => Or.inl (Or.inr hq))).setCell (Or.inl (Or.inl (Or.inr (Or.inr (Or.inr (Or.inl rfl)))))) _)
      have at6 : Hid (∀ k, Blk o' k → Blk o k ∨ W.heap.size ≤ k) := Lib.hid fun q hq => by
        rcases ht.at_ q hq with h | h
        · exact Or.inl h
        · exact Or.inr (Nat.le_trans M4.out.size h)
      clear ht
      go_upto_region 5 with (fail)
      clear hW6 fz4 c0
      have c4 := s4.out.1
      have c5 := s5.out.1
      have fz5 := s5.out.2
      go_wp2
      ((try simp only [Exit.inBlock, Exit.then]); first | (refine bodyPost_end (results_none rfl _ _ _) rfl ?_) | (refine bodyPost_ret (results_none rfl _ _ _) rfl ?_))
      have hPn := sT.out.len
      refine ⟨rfl, hend.out _ o' n' c' (by simpa using s1.out.far _ (by omega)) (by simpa using s2.out.far _ (by omega)) (by rw [← HM3.out]; exact s3.out.far _ (by omega)) (by rw [hPn]; exact s5.out.set _) (sT.out.far _ (by omega)) (s4.out.far _ (by omega)) (M6.out.setCell (Or.inl (Or.inl (Or.inr (Or.inr (Or.inr (Or.inr rfl)))))) _) at6.out⟩
    | false =>
      have fz0 := fg1.2
      have c0 := fg1.1
      clear hB1 hB2
      obtain ⟨y0_0, y0_1, y0_2, y0_3⟩ := bc
      obtain ⟨y0_4, y0_5, y0_6⟩ := bs
      go_enter Tryz.func48, Tryz.ntmps48
      go_upto_region 1 with (fail)
      clear hW
      go_upto_region 2 with (first | (go_at_call 49; (with_reducible refine (HVal.out _).mono ?_); rintro e w' ⟨rfl, rfl⟩))
      clear c0 fz0
      obtain ⟨W1, hW1⟩ : ∃ X, W.setCell ⟨g1, 0, none⟩ (.bool false) = X := ⟨_, rfl⟩
      rw [hW1]
      have hM1 : Hid (Mod (fun q => (q = g1 ∨ q = g2 ∨ q = g3 ∨ q = g4 ∨ q = g5) ∨ Blk o q) W W1) := Lib.hid (by rw [← hW1]; exact (Mod.refl _ W).setCell (Or.inl (Or.inl (Or.inl rfl))) _)
      have a1_g1 : VarB W1 g1 (.bool false) := by rw [← hW1]; exact fg1.set _
      have a1_g2 : VarB W1 g2 (.bool false) := by rw [← hW1]; exact fg2.far _ (by omega)
      have a1_g3 : VarB W1 g3 (.int .i64 L) := by rw [← hW1]; exact fg3.far _ (by omega)
      have a1_g4 : VarB W1 g4 (.slice o m c) := by rw [← hW1]; exact fg4.far _ (by omega)
      have a1_g5 : VarB W1 g5 (.int .i64 (T : Int)) := by rw [← hW1]; exact fg5.far _ (by omega)
      have y1_0 : W1.cell? ⟨w.heap.size, 0, none⟩ = some (.int .i64 k) := by rw [← hW1]; exact (World.cell?_setCell_far W ⟨g1, 0, none⟩ ⟨w.heap.size, 0, none⟩ _ (show ¬ g1 = w.heap.size by omega)).trans y0_0
      have y1_1 : W1.cell? ⟨w.heap.size, 1, none⟩ = some (.int .i64 i) := by rw [← hW1]; exact (World.cell?_setCell_far W ⟨g1, 0, none⟩ ⟨w.heap.size, 1, none⟩ _ (show ¬ g1 = w.heap.size by omega)).trans y0_1
      have y1_2 : W1.cell? ⟨w.heap.size, 2, none⟩ = some (.string x) := by rw [← hW1]; exact (World.cell?_setCell_far W ⟨g1, 0, none⟩ ⟨w.heap.size, 2, none⟩ _ (show ¬ g1 = w.heap.size by omega)).trans y0_2
      have y1_3 : W1.cell? ⟨w.heap.size, 3, none⟩ = some (.int .i64 n) := by rw [← hW1]; exact (World.cell?_setCell_far W ⟨g1, 0, none⟩ ⟨w.heap.size, 3, none⟩ _ (show ¬ g1 = w.heap.size by omega)).trans y0_3
      have y1_4 : W1.cell? ⟨w.heap.size + 1, 0, none⟩ = some (.int .i64 lev) := by rw [← hW1]; exact (World.cell?_setCell_far W ⟨g1, 0, none⟩ ⟨w.heap.size + 1, 0, none⟩ _ (show ¬ g1 = w.heap.size + 1 by omega)).trans y0_4
      have y1_5 : W1.cell? ⟨w.heap.size + 1, 1, none⟩ = some (.int .i64 ink) := by rw [← hW1]; exact (World.cell?_setCell_far W ⟨g1, 0, none⟩ ⟨w.heap.size + 1, 1, none⟩ _ (show ¬ g1 = w.heap.size + 1 by omega)).trans y0_5
      have y1_6 : W1.cell? ⟨w.heap.size + 1, 2, none⟩ = some (.int .i64 part) := by rw [← hW1]; exact (World.cell?_setCell_far W ⟨g1, 0, none⟩ ⟨w.heap.size + 1, 2, none⟩ _ (show ¬ g1 = w.heap.size + 1 by omega)).trans y0_6
      have t1 : TxR W1 base o m c pc := by rw [← hW1]; exact t0.far _ (by omega)
      have hs1 : W.heap.size ≤ W1.heap.size := by rw [← hW1]; simp [World.setCell]
      clear t0 hW1 fg1 fg2 fg3 fg4 fg5 y0_0 y0_1 y0_2 y0_3 y0_4 y0_5 y0_6
      have fz0 := a1_g2.2
      have c0 := a1_g2.1
      go_upto_region 3 with (fail)
      clear c0 fz0
      obtain ⟨W2, hW2⟩ : ∃ X, W1.setCell ⟨g2, 0, none⟩ (.bool false) = X := ⟨_, rfl⟩
      rw [hW2]
      have hM2 : Hid (Mod (fun q => (q = g1 ∨ q = g2 ∨ q = g3 ∨ q = g4 ∨ q = g5) ∨ Blk o q) W W2) := Lib.hid (by rw [← hW2]; exact (hM1.out).setCell (Or.inl (Or.inl (Or.inr (Or.inl rfl)))) _)
      have a2_g1 : VarB W2 g1 (.bool false) := by rw [← hW2]; exact a1_g1.far _ (by omega)
      have a2_g2 : VarB W2 g2 (.bool false) := by rw [← hW2]; exact a1_g2.set _
      have a2_g3 : VarB W2 g3 (.int .i64 L) := by rw [← hW2]; exact a1_g3.far _ (by omega)
      have a2_g4 : VarB W2 g4 (.slice o m c) := by rw [← hW2]; exact a1_g4.far _ (by omega)
      have a2_g5 : VarB W2 g5 (.int .i64 (T : Int)) := by rw [← hW2]; exact a1_g5.far _ (by omega)
      have y2_0 : W2.cell? ⟨w.heap.size, 0, none⟩ = some (.int .i64 k) := by rw [← hW2]; exact (World.cell?_setCell_far W1 ⟨g2, 0, none⟩ ⟨w.heap.size, 0, none⟩ _ (show ¬ g2 = w.heap.size by omega)).trans y1_0
      have y2_1 : W2.cell? ⟨w.heap.size, 1, none⟩ = some (.int .i64 i) := by rw [← hW2]; exact (World.cell?_setCell_far W1 ⟨g2, 0, none⟩ ⟨w.heap.size, 1, none⟩ _ (show ¬ g2 = w.heap.size by omega)).trans y1_1
      have y2_2 : W2.cell? ⟨w.heap.size, 2, none⟩ = some (.string x) := by rw [← hW2]; exact (World.cell?_setCell_far W1 ⟨g2, 0, none⟩ ⟨w.heap.size, 2, none⟩ _ (show ¬ g2 = w.heap.size by omega)).trans y1_2
      have y2_3 : W2.cell? ⟨w.heap.size, 3, none⟩ = some (.int .i64 n) := by rw [← hW2]; exact (World.cell?_setCell_far W1 ⟨g2, 0, none⟩ ⟨w.heap.size, 3, none⟩ _ (show ¬ g2 = w.heap.size by omega)).trans y1_3
      have y2_4 : W2.cell? ⟨w.heap.size + 1, 0, none⟩ = some (.int .i64 lev) := by rw [← hW2]; exact (World.cell?_setCell_far W1 ⟨g2, 0, none⟩ ⟨w.heap.size + 1, 0, none⟩ _ (show ¬ g2 = w.heap.size + 1 by omega)).trans y1_4
      have y2_5 : W2.cell? ⟨w.heap.size + 1, 1, none⟩ = some (.int .i64 ink) := by rw [← hW2]; exact (World.cell?_setCell_far W1 ⟨g2, 0, none⟩ ⟨w.heap.size + 1, 1, none⟩ _ (show ¬ g2 = w.heap.size + 1 by omega)).trans y1_5
      have y2_6 : W2.cell? ⟨w.heap.size + 1, 2, none⟩ = some (.int .i64 part) := by rw [← hW2]; exact (World.cell?_setCell_far W1 ⟨g2, 0, none⟩ ⟨w.heap.size + 1, 2, none⟩ _ (show ¬ g2 = w.heap.size + 1 by omega)).trans y1_6
      have t2 : TxR W2 base o m c pc := by rw [← hW2]; exact t1.far _ (by omega)
      have hs2 : W1.heap.size ≤ W2.heap.size := by rw [← hW2]; simp [World.setCell]
      clear t1 hW2 a1_g1 a1_g2 a1_g3 a1_g4 a1_g5 y1_0 y1_1 y1_2 y1_3 y1_4 y1_5 y1_6
      have fz0 := a2_g3.2
      have c0 := a2_g3.1
      go_upto_region 4 with (fail)
      clear c0 fz0
      obtain ⟨W3, hW3⟩ : ∃ X, W2.setCell ⟨g3, 0, none⟩ (.int .i64 (max L lev)) = X := ⟨_, rfl⟩
      rw [hW3]
      have hM3 : Hid (Mod (fun q => (q = g1 ∨ q = g2 ∨ q = g3 ∨ q = g4 ∨ q = g5) ∨ Blk o q) W W3) := Lib.hid (by rw [← hW3]; exact (hM2.out).setCell (Or.inl (Or.inl (Or.inr (Or.inr (Or.inl rfl))))) _)
      have a3_g1 : VarB W3 g1 (.bool false) := by rw [← hW3]; exact a2_g1.far _ (by omega)
      have a3_g2 : VarB W3 g2 (.bool false) := by rw [← hW3]; exact a2_g2.far _ (by omega)
      have a3_g3 : VarB W3 g3 (.int .i64 (max L lev)) := by rw [← hW3]; exact a2_g3.set _
      have a3_g4 : VarB W3 g4 (.slice o m c) := by rw [← hW3]; exact a2_g4.far _ (by omega)
      have a3_g5 : VarB W3 g5 (.int .i64 (T : Int)) := by rw [← hW3]; exact a2_g5.far _ (by omega)
      have y3_0 : W3.cell? ⟨w.heap.size, 0, none⟩ = some (.int .i64 k) := by rw [← hW3]; exact (World.cell?_setCell_far W2 ⟨g3, 0, none⟩ ⟨w.heap.size, 0, none⟩ _ (show ¬ g3 = w.heap.size by omega)).trans y2_0
      have y3_1 : W3.cell? ⟨w.heap.size, 1, none⟩ = some (.int .i64 i) := by rw [← hW3]; exact (World.cell?_setCell_far W2 ⟨g3, 0, none⟩ ⟨w.heap.size, 1, none⟩ _ (show ¬ g3 = w.heap.size by omega)).trans y2_1
      have y3_2 : W3.cell? ⟨w.heap.size, 2, none⟩ = some (.string x) := by rw [← hW3]; exact (World.cell?_setCell_far W2 ⟨g3, 0, none⟩ ⟨w.heap.size, 2, none⟩ _ (show ¬ g3 = w.heap.size by omega)).trans y2_2
      have y3_3 : W3.cell? ⟨w.heap.size, 3, none⟩ = some (.int .i64 n) := by rw [← hW3]; exact (World.cell?_setCell_far W2 ⟨g3, 0, none⟩ ⟨w.heap.size, 3, none⟩ _ (show ¬ g3 = w.heap.size by omega)).trans y2_3
      have y3_4 : W3.cell? ⟨w.heap.size + 1, 0, none⟩ = some (.int .i64 lev) := by rw [← hW3]; exact (World.cell?_setCell_far W2 ⟨g3, 0, none⟩ ⟨w.heap.size + 1, 0, none⟩ _ (show ¬ g3 = w.heap.size + 1 by omega)).trans y2_4
      have y3_5 : W3.cell? ⟨w.heap.size + 1, 1, none⟩ = some (.int .i64 ink) := by rw [← hW3]; exact (World.cell?_setCell_far W2 ⟨g3, 0, none⟩ ⟨w.heap.size + 1, 1, none⟩ _ (show ¬ g3 = w.heap.size + 1 by omega)).trans y2_5
      have y3_6 : W3.cell? ⟨w.heap.size + 1, 2, none⟩ = some (.int .i64 part) := by rw [← hW3]; exact (World.cell?_setCell_far W2 ⟨g3, 0, none⟩ ⟨w.heap.size + 1, 2, none⟩ _ (show ¬ g3 = w.heap.size + 1 by omega)).trans y2_6
      have t3 : TxR W3 base o m c pc := by rw [← hW3]; exact t2.far _ (by omega)
      have hs3 : W2.heap.size ≤ W3.heap.size := by rw [← hW3]; simp [World.setCell]
      clear t2 hW3 a2_g1 a2_g2 a2_g3 a2_g4 a2_g5 y2_0 y2_1 y2_2 y2_3 y2_4 y2_5 y2_6
      have c0 := a3_g4.1
      go_still_tail 4, (by kernel_rfl)
      change wpList _ _ _ _ _ W3.drew
      obtain ⟨W4, hW4⟩ : ∃ X, W3.drew = X := ⟨_, rfl⟩
      rw [hW4]
      have B4 : Bel W3 W4 := by rw [← hW4]; exact Below.drew (Bel.refl W3)
      have ht4 := Lib.hid (t3.on B4)
      have hb4 := Lib.hid (Nat.le_trans hbW (Nat.le_trans hM3.out.size B4.size))
      have M4 : Hid (Mod (fun q => (q = g1 ∨ q = g2 ∨ q = g3 ∨ q = g4 ∨ q = g5) ∨ Blk o q) W W4) := Lib.hid (hM3.out.trans (Mod.of_bel (F := fun q => (q = g1 ∨ q = g2 ∨ q = g3 ∨ q = g4 ∨ q = g5) ∨ Blk o q) B4) (fun _ h => Or.inl h))
      have z1 := Lib.hid (a3_g1.mod (Mod.of_bel (F := fun _ => False) B4) id)
      have z2 := Lib.hid (a3_g2.mod (Mod.of_bel (F := fun _ => False) B4) id)
      have z3 := Lib.hid (a3_g3.mod (Mod.of_bel (F := fun _ => False) B4) id)
      have z4 := Lib.hid (a3_g4.mod (Mod.of_bel (F := fun _ => False) B4) id)
      have z5 := Lib.hid (a3_g5.mod (Mod.of_bel (F := fun _ => False) B4) id)
      have nb : Hid (∀ q, q < base → ¬ Blk o q) := Lib.hid fun q hq hb => by have := (hTlt.out q hb).1; omega
      clear hW4 B4 t3 c0 a3_g1 a3_g2 a3_g3 a3_g4 a3_g5 y3_0 y3_1 y3_2 y3_3 y3_4 y3_5 y3_6 hs1 hs2 hs3 hcut
      go_wp2_with fail
      refine (HTx.out _ ht4.out hb4.out).mono ?_
      rintro e w5 ⟨o', n', c', rfl, ht⟩
      have hTT := Lib.hid ht
      have u1 := Lib.hid (z1.out.mod ht.mod (nb.out _ (by omega)))
      have u2 := Lib.hid (z2.out.mod ht.mod (nb.out _ (by omega)))
      have u3 := Lib.hid (z3.out.mod ht.mod (nb.out _ (by omega)))
      have u4 := Lib.hid (z4.out.mod ht.mod (nb.out _ (by omega)))
      have u5 := Lib.hid (z5.out.mod ht.mod (nb.out _ (by omega)))
      have hn' : n' ≤ 2000060 := by have := ht.row.len; omega
      obtain ⟨W6, hW6⟩ : ∃ X, w5.setCell ⟨g4, 0, none⟩ (.slice o' n' c') = X := ⟨_, rfl⟩
      have fz4 := u4.out.2
      have c0 := u4.out.1
      have s1 : Hid (VarB W6 g1 (.bool false)) := Lib.hid (by rw [← hW6]; exact u1.out.far _ (by omega))
      have s2 : Hid (VarB W6 g2 (.bool false)) := Lib.hid (by rw [← hW6]; exact u2.out.far _ (by omega))
      have s3 : Hid (VarB W6 g3 (.int .i64 (max L lev))) := Lib.hid (by rw [← hW6]; exact u3.out.far _ (by omega))
      have s4 : Hid (VarB W6 g4 (.slice o' n' c')) := Lib.hid (by rw [← hW6]; exact u4.out.set _)
      have s5 : Hid (VarB W6 g5 (.int .i64 (T : Int))) := Lib.hid (by rw [← hW6]; exact u5.out.far _ (by omega))
      have sT : Hid (TxR W6 base o' n' c' P) := Lib.hid (by rw [← hW6]; exact hTT.out.row.far _ (by omega))
      have M6 : Hid (Mod (fun q => (q = g1 ∨ q = g2 ∨ q = g3 ∨ q = g4 ∨ q = g5) ∨ Blk o q) W W6) := Lib.hid (by
        rw [← hW6]
        exact (M4.out.trans ht.mod (fun q hq => Or.inl (Or.inr hq))).setCell (Or.inl (Or.inl (Or.inr (Or.inr (Or.inr (Or.inl rfl)))))) _)
      have at6 : Hid (∀ k, Blk o' k → Blk o k ∨ W.heap.size ≤ k) := Lib.hid fun q hq => by
        rcases ht.at_ q hq with h | h
        · exact Or.inl h
        · exact Or.inr (Nat.le_trans M4.out.size h)
      clear ht
      go_upto_region 5 with (fail)
      clear hW6 fz4 c0
      have c4 := s4.out.1
      have c5 := s5.out.1
      have fz5 := s5.out.2
      go_wp2
      ((try simp only [Exit.inBlock, Exit.then]); first | (refine bodyPost_end (results_none rfl _ _ _) rfl ?_) | (refine bodyPost_ret (results_none rfl _ _ _) rfl ?_))
      have hPn := sT.out.len
      refine ⟨rfl, hend.out _ o' n' c' (by simpa using s1.out.far _ (by omega)) (by simpa using s2.out.far _ (by omega)) (by rw [← HM3.out]; exact s3.out.far _ (by omega)) (by rw [hPn]; exact s5.out.set _) (sT.out.far _ (by omega)) (s4.out.far _ (by omega)) (M6.out.setCell (Or.inl (Or.inl (Or.inr (Or.inr (Or.inr (Or.inr rfl)))))) _) at6.out⟩
end Val
end Go.Proofs.YtegfcmnbljdcpaaGreatDoor

/-
  Layer 6: Check, as the program has it.
-/
namespace Go.Proofs.YtegfcmnbljdcpaaGreatDoor
open Go.RowKit Go.ChangeShapes Go.WideShapes
namespace Val

set_option maxRecDepth 100000 in
theorem check_visitor {g1 g2 g3 g4 g5 base : Nat} (h5 : Five g1 g2 g3 g4 g5 base) : Visitor 48 #[.pointer (some ⟨g1, 0, none⟩), .pointer (some ⟨g2, 0, none⟩), .pointer (some ⟨g3, 0, none⟩), .pointer (some ⟨g4, 0, none⟩), .pointer (some ⟨g5, 0, none⟩)] (JC g1 g2 g3 g4 g5 base) where
  enters := fun args w => rfl
  stay := fun h hs hF => h.keep hs hF
  lt := fun h => h.lt
  call := fun es F w c s hJ hf hs hl hi hp he => by
    obtain ⟨k, i, x, n⟩ := c
    obtain ⟨lev, ink, part⟩ := s
    obtain ⟨X, hX⟩ : ∃ X : ByteArray, ⟨x.toArray⟩ = X := ⟨_, rfl⟩
    obtain rfl : x = X.toList := by rw [← hX, tl x]
    have h := check_call h5 es F w k i n X lev ink part hJ hf (by rw [← toL_len]; exact hs) hl hp he
    rw [celV_str, sptV]
    exact h
theorem VarB.new (w : World) (v : Value) (t : TypeId) : VarB (w.alloc (.cells #[v] t)) w.heap.size v := ⟨World.cell?_alloc_new .., by
  have := heap_alloc_new w (.cells #[v] t)
  simp only [World.frozen?, this]
  rfl⟩
theorem VarB.old {w : World} {g : Nat} {v : Value} (h : VarB w g v) (o : Obj) : VarB (w.alloc o) g v := h.mod (Mod.of_bel (F := fun _ => False) (Bel.alloc (Bel.refl w) o)) id
/-- The world with Check's five variables. -/
theorem check_start (w W : World) (hW : ((((w.alloc (.cells #[.bool true] 4)).alloc (.cells #[.bool true] 4)).alloc (.cells #[.int .i64 0] 3)).alloc (.cells #[.int .i64 0] 3)).alloc (.cells #[.slice none 0 0] 65) = W) :
    Bel w W ∧ JC w.heap.size (w.heap.size + 1) (w.heap.size + 1 + 1) (w.heap.size + 1 + 1 + 1 + 1) (w.heap.size + 1 + 1 + 1) (w.heap.size + 5) [] (fun k => (k = w.heap.size ∨ k = w.heap.size + 1 ∨ k = w.heap.size + 1 + 1 ∨ k = w.heap.size + 1 + 1 + 1 + 1 ∨ k = w.heap.size + 1 + 1 + 1) ∨ Blk none k) W := by
  subst hW
  refine ⟨Bel.alloc (Bel.alloc (Bel.alloc (Bel.alloc (Bel.alloc (Bel.refl w) _) _) _) _) _, ⟨?_, ?_, ?_, ?_, ⟨none, 0, 0, [], fun k => Iff.rfl, World.ownsRow_nil _ _ _ _, ?_, by omega⟩, ?_, ⟨by decide, by decide⟩, by decide⟩⟩
  · exact ((((VarB.new w _ _).old _).old _).old _).old _
  · have h := ((((VarB.new (w.alloc (.cells #[.bool true] 4)) (.bool true) 4).old (.cells #[.int .i64 0] 3)).old (.cells #[.int .i64 0] 3)).old (.cells #[.slice none 0 0] 65))
    show VarB _ _ (.bool true)
    simpa using h
  · have h := (((VarB.new ((w.alloc (.cells #[.bool true] 4)).alloc (.cells #[.bool true] 4)) (.int .i64 0) 3).old (.cells #[.int .i64 0] 3)).old (.cells #[.slice none 0 0] 65))
    show VarB _ _ (.int .i64 0)
    simpa using h
  · have h := ((VarB.new (((w.alloc (.cells #[.bool true] 4)).alloc (.cells #[.bool true] 4)).alloc (.cells #[.int .i64 0] 3)) (.int .i64 0) 3).old (.cells #[.slice none 0 0] 65))
    show VarB _ _ (.int .i64 0)
    simpa using h
  · have h := VarB.new ((((w.alloc (.cells #[.bool true] 4)).alloc (.cells #[.bool true] 4)).alloc (.cells #[.int .i64 0] 3)).alloc (.cells #[.int .i64 0] 3)) (.slice none 0 0) 65
    simpa using h
  · simp
set_option maxRecDepth 100000 in
set_option maxHeartbeats 4000000 in
theorem vcheck_any (l : List Cel) (o : Option Addr) (n c : Nat) (hn : n ≤ 1000000) (hss : ∀ x ∈ l, x.s.length ≤ 1000000) (w : World) (hA : CArg w o n l) :
    Calls Tryz.prog 29 #[.slice o n c] w fun e w' => e = .returned (.int .i64 (chk l)) ∧ Bel w w' := by
  have hmf : ∀ (fn : Fn) (first cap : Array Value) (w : World), (Instr.makeFunc fn first cap).run Tryz.prog w = .ok (.func fn first cap) w := fun _ _ _ _ => rfl
  obtain ⟨W, hW⟩ : ∃ W, ((((w.alloc (.cells #[.bool true] 4)).alloc (.cells #[.bool true] 4)).alloc (.cells #[.int .i64 0] 3)).alloc (.cells #[.int .i64 0] 3)).alloc (.cells #[.slice none 0 0] 65) = W := ⟨_, rfl⟩
  obtain ⟨B0, J0⟩ := check_start w W hW
  have h5 : Five w.heap.size (w.heap.size + 1) (w.heap.size + 1 + 1) (w.heap.size + 1 + 1 + 1 + 1) (w.heap.size + 1 + 1 + 1) (w.heap.size + 5) := by unfold Five; omega
  have hwalk := Lib.hid (walk_any (check_visitor h5) l [] _ o n c W hn hss (by decide) J0 (hA.on B0) (fun hpos b off e hk => by
    obtain ⟨b', off', e', hc⟩ := hA.2.2 hpos
    rw [e'] at e
    simp only [Option.some.injEq, Addr.mk.injEq] at e
    obtain ⟨rfl, -⟩ := e
    have := cell_lt' (hc 0 (by have := hA.1; omega)).1
    simp only at this
    rcases hk with (h | h | h | h | h) | ⟨off, h⟩
    all_goals first | omega | cases h))
  have HB0 := Lib.hid B0
  have hl := hA.1
  clear J0 B0 h5 hss hA
  go_enter Tryz.func29, Tryz.ntmps29
  go_upto_region 4 with (fail)
  clear hW
  go_wp2_with fail
  refine hwalk.out.mono ?_
  rintro e w1 ⟨rfl, F1, j1, m1, -⟩
  have B1 : Hid (Bel w w1) := Lib.hid (Mod.bel_of HB0.out m1 (fun i hi => by
    rcases hi with (h | h | h | h | h) | ⟨off, h⟩
    all_goals first | omega | cases h))
  clear m1 hwalk HB0
  cases hp : par l with
  | none =>
    have hz := Lib.hid (show chk l = 1 by unfold chk; rw [hp])
    have hk := wlk_none hp
    rw [hk]
    clear hp hk j1
    go_wp2
    go_ret
    exact ⟨by rw [hz.out]; rfl, B1.out⟩
  | some v =>
    have hk := wlk_some hp
    rw [hk] at j1 ⊢
    have J1 := j1 rfl
    rw [List.nil_append] at J1
    obtain ⟨-, hlv⟩ := par_some.1 hp
    have e1 : evA pI (evs v spt0) = l.all rngC := by rw [hlv]; exact evs_all agree_rng v spt0
    have e2 : evA strC (evs v spt0) = l.all strC := by rw [hlv]; exact evs_all agree_str v spt0
    have e3 := evs_lvl v
    have e4 : evTs (evs v spt0) = text v := by rw [evs_text]; rfl
    have w1' := J1.v1.1
    have w2' := J1.v2.1
    have w3' := J1.v3.1
    have w5' := J1.v5.1
    rw [e1] at w1'
    rw [e2] at w2'
    rw [e3] at w3'
    rw [e4] at w5'
    have hz := Lib.hid (show chk l = chkT l v by unfold chk; rw [hp])
    have hlb := J1.lev
    rw [e3] at hlb
    clear J1 j1 hk hp e1 e2 e3 e4 hlv
    obtain ⟨T, hT⟩ : ∃ T, (text v).length = T := ⟨_, rfl⟩
    obtain ⟨L, hL⟩ : ∃ L, lvl v = L := ⟨_, rfl⟩
    have HT := Lib.hid hT
    have HL := Lib.hid hL
    rw [hT] at w5'
    rw [hL] at w3' hlb
    clear hT hL
    cases hr : l.all rngC with
    | false =>
      rw [hr] at w1'
      have hy := Lib.hid (hz.out.trans (chkT_no hr))
      clear hr w2' w3' w5'
      go_wp2
      go_ret
      exact ⟨by rw [hy.out]; rfl, B1.out⟩
    | true =>
      rw [hr] at w1'
      have hy := Lib.hid (hz.out.trans (chkT_yes hr))
      clear hr hz
      cases hs : l.all strC with
      | false =>
        rw [hs] at w2'
        have hx : Hid (chk l = 3) := Lib.hid (by rw [hy.out]; unfold chk2; rw [hs]; split <;> (try rfl); split <;> rfl)
        clear hs hy w3' w5'
        go_wp2
        go_ret
        exact ⟨by rw [hx.out]; rfl, B1.out⟩
      | true =>
        rw [hs] at w2'
        by_cases h200 : 200 < n
        · have hx : Hid (chk l = 3) := Lib.hid (by rw [hy.out]; exact chk2_a (by omega))
          clear hs hy w3' w5'
          go_wp2
          go_ret
          exact ⟨by rw [hx.out]; rfl, B1.out⟩
        · have d200 : decide ((200 : Int) < (n : Int)) = false := decide_eq_false (by omega)
          by_cases h8 : 8 < L
          · have hx : Hid (chk l = 3) := Lib.hid (by rw [hy.out]; exact chk2_b (by omega) (by rw [HL.out]; exact h8))
            clear hs hy w5'
            go_wp2
            go_ret
            exact ⟨by rw [hx.out]; rfl, B1.out⟩
          · have d8 : decide ((8 : Int) < (L : Int)) = false := decide_eq_false (by omega)
            have hy2 := Lib.hid (hy.out.trans (chk2_d (by omega) (by rw [HL.out]; exact h8) hs))
            clear hs hy
            by_cases h4 : 4000 < T
            · have hx : Hid (chk l = 3) := Lib.hid (by rw [hy2.out, if_pos (by rw [HT.out]; exact h4)])
              clear hy2
              go_wp2
              go_ret
              exact ⟨by rw [hx.out]; rfl, B1.out⟩
            · have d4 : decide ((4000 : Int) < (T : Int)) = false := decide_eq_false (by omega)
              have hx : Hid (chk l = 0) := Lib.hid (by rw [hy2.out, if_neg (by rw [HT.out]; exact h4)])
              clear hy2
              go_wp2
              go_ret
              exact ⟨by rw [hx.out]; rfl, B1.out⟩
end Val
end Go.Proofs.YtegfcmnbljdcpaaGreatDoor

/-
  Layer 6: Depth and Encode, as the program has them.
-/
namespace Go.Proofs.YtegfcmnbljdcpaaGreatDoor
open Go.RowKit Go.ChangeShapes Go.WideShapes
namespace Val

/-- What Depth keeps of what was visited. -/
structure JD (g : Nat) (es : List Ev) (F : Nat → Prop) (w : World) : Prop where
  var : VarB w g (.int .i64 (evL es))
  foot : ∀ k, F k ↔ k = g
  lev : 0 ≤ evL es ∧ evL es ≤ 4000000
set_option maxRecDepth 100000 in
theorem depth_visitor (g : Nat) : Visitor 47 #[.pointer (some ⟨g, 0, none⟩)] (JD g) where
  enters := fun args w => rfl
  stay := fun h hs hF => ⟨h.var.same (hF _ ((h.foot _).2 rfl)), h.foot, h.lev⟩
  lt := fun h k hk => by rw [(h.foot k).1 hk]; exact h.var.lt
  call := fun es F w c s hJ hf hs hl hi hp he => by
    obtain ⟨k, i, x, n⟩ := c
    obtain ⟨lev, ink, part⟩ := s
    simp only at hl
    obtain ⟨L, hL⟩ : ∃ L, evL es = L := ⟨_, rfl⟩
    obtain ⟨X, hX⟩ : ∃ X : ByteArray, ⟨x.toArray⟩ = X := ⟨_, rfl⟩
    obtain ⟨W, hW⟩ : ∃ W, (w.alloc (.cells #[.int .i64 k, .int .i64 i, .string X, .int .i64 n] 43)).alloc (.cells #[.int .i64 lev, .int .i64 ink, .int .i64 part] 68) = W := ⟨_, rfl⟩
    have B0 : Bel w W := by rw [← hW]; exact Bel.alloc (Bel.alloc (Bel.refl w) _) _
    have v0 := hJ.var.mod (Mod.of_bel (F := fun _ => False) B0) id
    have bs : W.cell? ⟨w.heap.size + 1, 0, none⟩ = some (.int .i64 lev) := by
      have := (boxS (w.alloc (.cells #[.int .i64 k, .int .i64 i, .string X, .int .i64 n] 43)) lev ink part 68).1
      rw [hW] at this
      simpa using this
    have hlev := hJ.lev
    rw [hL] at v0 hlev
    have c0 := v0.1
    have fz := v0.2
    have HL := Lib.hid hL
    have HJ := Lib.hid hJ
    have HV := Lib.hid v0
    have HB := Lib.hid B0
    rw [show celV ⟨k, i, x, n⟩ = .agg #[.int .i64 k, .int .i64 i, .string X, .int .i64 n] by rw [← hX]; rfl, sptV]
    show Calls Tryz.prog 47 #[.agg #[.int .i64 k, .int .i64 i, .string X, .int .i64 n], .agg #[.int .i64 lev, .int .i64 ink, .int .i64 part], .pointer (some ⟨g, 0, none⟩)] w _
    clear hL hX v0 B0 hJ hf hs hp hi he
    go_enter Tryz.func47, Tryz.ntmps47
    go_upto_region 1 with (fail)
    clear hW
    go_wp2
    ((try simp only [Exit.inBlock, Exit.then]); first | (refine bodyPost_end (results_none rfl _ _ _) rfl ?_) | (refine bodyPost_ret (results_none rfl _ _ _) rfl ?_))
    refine ⟨rfl, F, ⟨?_, HJ.out.foot, ?_⟩, ?_, fun k hk => Or.inl hk⟩
    · rw [evL_snoc, HL.out]
      exact HV.out.set _
    · rw [evL_snoc, HL.out]
      show 0 ≤ max L lev ∧ max L lev ≤ 4000000
      omega
    · exact (Mod.of_bel (F := F) HB.out).setCell (Or.inl ((HJ.out.foot g).2 rfl)) _
/-- What Encode keeps of what was visited. -/
structure JE (g base : Nat) (es : List Ev) (F : Nat → Prop) (w : World) : Prop where
  text : ∃ o n c, (∀ k, F k ↔ k = g ∨ Blk o k) ∧ TxR w base o n c (evTs es) ∧ VarB w g (.slice o n c) ∧ n ≤ es.length * 2000100
  size : g < base ∧ base ≤ w.heap.size
set_option maxRecDepth 100000 in
theorem encode_visitor (g base : Nat) : Visitor 43 #[.pointer (some ⟨g, 0, none⟩)] (JE g base) where
  enters := fun args w => rfl
  stay := fun h hs hF => by
    obtain ⟨o, n, c, h1, h2, h3, h4⟩ := h.text
    exact ⟨⟨o, n, c, h1, own_same h2 (fun b hb => hF b ((h1 b).2 (Or.inr ((blk_of h2).2 hb)))), h3.same (hF _ ((h1 _).2 (Or.inl rfl))), h4⟩, h.size.1, Nat.le_trans h.size.2 hs⟩
  lt := fun h k hk => by
    obtain ⟨o, n, c, h1, h2, h3, h4⟩ := h.text
    rcases (h1 k).1 hk with rfl | hb
    · exact h3.lt
    · exact (h2.row_lt hb).2
  call := fun es F w c s hJ hf hs hl hi hp he => by
    obtain ⟨o, m, c', hF, hT, hV, hm⟩ := hJ.text
    have hsz := hJ.size
    have hEl := evT_len c s hf
    obtain ⟨k, i, x, n⟩ := c
    obtain ⟨lev, ink, part⟩ := s
    simp only at hl hp hs
    obtain ⟨X, hX⟩ : ∃ X : ByteArray, ⟨x.toArray⟩ = X := ⟨_, rfl⟩
    obtain rfl : x = X.toList := by rw [← hX, tl x]
    rw [toL_len] at hs
    have hEl2 : (evT (⟨k, i, X.toList, n⟩, ⟨lev, ink, part⟩)).length ≤ 2 * X.toList.length + 60 := hEl
    rw [toL_len] at hEl2
    obtain ⟨W, hW⟩ : ∃ W, (w.alloc (.cells #[.int .i64 k, .int .i64 i, .string X, .int .i64 n] 43)).alloc (.cells #[.int .i64 lev, .int .i64 ink, .int .i64 part] 68) = W := ⟨_, rfl⟩
    have B0 : Bel w W := by rw [← hW]; exact Bel.alloc (Bel.alloc (Bel.refl w) _) _
    have v0 := hV.mod (Mod.of_bel (F := fun _ => False) B0) id
    obtain ⟨bc0, bc1, bc2, bc3⟩ : (W.cell? ⟨w.heap.size, 0, none⟩ = some (.int .i64 k) ∧ W.cell? ⟨w.heap.size, 1, none⟩ = some (.int .i64 i) ∧ W.cell? ⟨w.heap.size, 2, none⟩ = some (.string X) ∧ W.cell? ⟨w.heap.size, 3, none⟩ = some (.int .i64 n)) := by
      obtain ⟨a, b, c, d⟩ := boxC w k i n X 43
      rw [← hW]
      exact ⟨(Bel.alloc (Bel.refl _) _).cell' a, (Bel.alloc (Bel.refl _) _).cell' b, (Bel.alloc (Bel.refl _) _).cell' c, (Bel.alloc (Bel.refl _) _).cell' d⟩
    obtain ⟨bs0, bs1, bs2⟩ : (W.cell? ⟨w.heap.size + 1, 0, none⟩ = some (.int .i64 lev) ∧ W.cell? ⟨w.heap.size + 1, 1, none⟩ = some (.int .i64 ink) ∧ W.cell? ⟨w.heap.size + 1, 2, none⟩ = some (.int .i64 part)) := by
      have := boxS (w.alloc (.cells #[.int .i64 k, .int .i64 i, .string X, .int .i64 n] 43)) lev ink part 68
      rw [hW] at this
      simpa using this
    have hmul : es.length * 2000100 ≤ 4000000 * 2000100 := Nat.mul_le_mul_right _ he
    have HTx := Lib.hid (appendText_any (evTs es) k i n X lev ink part base m c' o W (hT.on B0) (by omega) hs hf.2.1 hp (Nat.le_trans hsz.2 B0.size))
    have nb : Hid (¬ Blk o g) := Lib.hid (fun hb => by have := (hT.row_lt hb).1; omega)
    have c0 := v0.1
    have HV := Lib.hid v0
    have HB := Lib.hid B0
    have HF := Lib.hid hF
    have HM := Lib.hid hm
    have hTl := Lib.hid hT.len
    rw [celV_str, sptV]
    show Calls Tryz.prog 43 #[.agg #[.int .i64 k, .int .i64 i, .string X, .int .i64 n], .agg #[.int .i64 lev, .int .i64 ink, .int .i64 part], .pointer (some ⟨g, 0, none⟩)] w _
    clear hX v0 B0 hJ hf hF hT hV hEl hmul he hl hi
    go_enter Tryz.func43, Tryz.ntmps43
    go_upto_region 1 with (fail)
    clear hW
    go_wp2_with fail
    refine HTx.out.mono ?_
    rintro e w1 ⟨o', n', c2, rfl, ht⟩
    have HT := Lib.hid ht
    have v1 := HV.out.mod ht.mod nb.out
    have HV1 := Lib.hid v1
    have c1 := v1.1
    have fz := v1.2
    clear ht v1 c0 bc0 bc1 bc2 bc3 bs0 bs1 bs2
    go_wp2
    ((try simp only [Exit.inBlock, Exit.then]); first | (refine bodyPost_end (results_none rfl _ _ _) rfl ?_) | (refine bodyPost_ret (results_none rfl _ _ _) rfl ?_))
    have hlen := HT.out.row.len
    refine ⟨rfl, fun q => q = g ∨ Blk o' q, ⟨⟨o', n', c2, fun k => Iff.rfl, ?_, HV1.out.set _, ?_⟩, hsz.1, ?_⟩, ?_, ?_⟩
    · rw [evTs_snoc]
      exact HT.out.row.far _ hsz.1
    · have := HM.out
      rw [List.length_append] at hlen
      have h2 := hTl.out
      simp only [List.length_append, List.length_cons, List.length_nil]
      omega
    · exact Nat.le_trans (Nat.le_trans hsz.2 (Nat.le_trans HB.out.size HT.out.mod.size)) (by simp [World.setCell])
    · exact ((Mod.of_bel (F := F) HB.out).trans HT.out.mod (fun q hq => Or.inl ((HF.out q).2 (Or.inr hq)))).setCell (Or.inl ((HF.out g).2 (Or.inl rfl))) _
    · rintro q (rfl | hq)
      · exact Or.inl ((HF.out _).2 (Or.inl rfl))
      · rcases HT.out.at_ q hq with h | h
        · exact Or.inl ((HF.out q).2 (Or.inr h))
        · exact Or.inr (Nat.le_trans HB.out.size h)
theorem not_blk_arg {w : World} {o : Option Addr} {n : Nat} {l : List Cel} (h : CArg w o n l) (hpos : 0 < n) (b off : Nat) (e : o = some ⟨b, off, none⟩) : b < w.heap.size := by
  obtain ⟨b', off', e', hc⟩ := h.2.2 hpos
  rw [e'] at e
  simp only [Option.some.injEq, Addr.mk.injEq] at e
  obtain ⟨rfl, -⟩ := e
  exact cell_lt' (hc 0 (by have := h.1; omega)).1
set_option maxRecDepth 100000 in
set_option maxHeartbeats 4000000 in
theorem vdepth_any (l : List Cel) (o : Option Addr) (n c : Nat) (hn : n ≤ 1000000) (hss : ∀ x ∈ l, x.s.length ≤ 1000000) (w : World) (hA : CArg w o n l) :
    Calls Tryz.prog 28 #[.slice o n c] w fun e w' => e = .returned (.int .i64 (depC l)) ∧ Bel w w' := by
  have hmf : ∀ (fn : Fn) (first cap : Array Value) (w : World), (Instr.makeFunc fn first cap).run Tryz.prog w = .ok (.func fn first cap) w := fun _ _ _ _ => rfl
  have HC := Lib.hid (vcheck_any l o n c hn hss w hA)
  have HA := Lib.hid hA
  have HSS := Lib.hid hss
  clear hA hss
  by_cases hz : chk l = 0
  · obtain ⟨t, hp⟩ : ∃ t, par l = some t := by
      cases hp : par l with
      | none => unfold chk at hz; rw [hp] at hz; cases hz
      | some t => exact ⟨t, rfl⟩
    have hr := Lib.hid (show depC l = (lvl t : Int) by unfold depC; rw [hp]; exact if_pos (by have h := hz; unfold chk at h; rw [hp] at h; exact h))
    rw [hz] at HC
    have hw := Lib.hid (wlk_some hp)
    clear hz hp
    go_enter Tryz.func28, Tryz.ntmps28
    go_wp2_with fail
    refine HC.out.mono ?_
    rintro e w1 ⟨rfl, g⟩
    have G := Lib.hid g
    have J0 : JD w1.heap.size [] (fun k => k = w1.heap.size) (w1.alloc (.cells #[.int .i64 0] 3)) := ⟨VarB.new _ _ _, fun k => Iff.rfl, by decide, by decide⟩
    have hwalk := Lib.hid (walk_any (depth_visitor w1.heap.size) l [] _ o n c _ hn HSS.out (by decide) J0 ((HA.out.on g).on (Bel.alloc (Bel.refl w1) _)) (fun hpos b off e hk => by have := not_blk_arg (HA.out.on g) hpos b off e; omega))
    clear g J0
    go_wp2_with fail
    refine hwalk.out.mono ?_
    rintro e w2 ⟨rfl, F2, j2, m2, -⟩
    have hB : Hid (Bel w w2) := Lib.hid (G.out.trans (Mod.bel_of (Bel.alloc (Bel.refl w1) _) m2 (fun i hi => by rw [show i = w1.heap.size from hi]; exact Nat.le_refl _)))
    rw [hw.out] at j2
    have J2 := j2 rfl
    have c0 := J2.var.1
    rw [List.nil_append, evs_lvl] at c0
    clear j2 J2 m2 hwalk
    go_wp2
    go_ret
    exact ⟨by rw [hr.out]; rfl, hB.out⟩
  · have hr := Lib.hid (show depC l = 0 by
      unfold depC
      cases hp : par l with
      | none => rfl
      | some t => exact if_neg (fun h => hz (by unfold chk; rw [hp]; exact h)))
    obtain ⟨z, hzz⟩ : ∃ z, chk l = z := ⟨_, rfl⟩
    rw [hzz] at HC hz
    have hzb : (z == 0) = false := by simpa using hz
    have hzn : (z != 0) = true := by simpa using hz
    clear hzz
    go_enter Tryz.func28, Tryz.ntmps28
    go_wp2_with fail
    refine HC.out.mono ?_
    rintro e w1 ⟨rfl, g⟩
    have G := Lib.hid g
    clear g
    go_wp2
    go_ret
    exact ⟨by rw [hr.out]; rfl, G.out⟩
set_option maxRecDepth 100000 in
set_option maxHeartbeats 4000000 in
theorem vencode_any (l : List Cel) (o : Option Addr) (n c : Nat) (hn : n ≤ 1000000) (hss : ∀ x ∈ l, x.s.length ≤ 1000000) (w : World) (hA : CArg w o n l) :
    Calls Tryz.prog 25 #[.slice o n c] w fun e w' => e = .returned (.tuple #[.string ⟨(encT l).toArray⟩, .int .i64 (chk l)]) ∧ Bel w w' := by
  have hmf : ∀ (fn : Fn) (first cap : Array Value) (w : World), (Instr.makeFunc fn first cap).run Tryz.prog w = .ok (.func fn first cap) w := fun _ _ _ _ => rfl
  have HC := Lib.hid (vcheck_any l o n c hn hss w hA)
  have HA := Lib.hid hA
  have HSS := Lib.hid hss
  clear hA hss
  by_cases hz : chk l = 0
  · obtain ⟨t, hp⟩ : ∃ t, par l = some t := by
      cases hp : par l with
      | none => unfold chk at hz; rw [hp] at hz; cases hz
      | some t => exact ⟨t, rfl⟩
    have hr := Lib.hid (show encT l = text t by unfold encT; rw [hp]; exact if_pos (by have h := hz; unfold chk at h; rw [hp] at h; exact h))
    rw [hz] at HC
    have hw := Lib.hid (wlk_some hp)
    have Hz := Lib.hid hz
    clear hz hp
    go_enter Tryz.func25, Tryz.ntmps25
    go_wp2_with fail
    refine HC.out.mono ?_
    rintro e w1 ⟨rfl, g⟩
    have G := Lib.hid g
    have J0 : JE w1.heap.size (w1.heap.size + 1) [] (fun k => k = w1.heap.size ∨ Blk none k) (w1.alloc (.cells #[.slice none 0 0] 65)) := ⟨⟨none, 0, 0, fun k => Iff.rfl, World.ownsRow_nil _ _ _ _, VarB.new _ _ _, by omega⟩, by omega, by simp⟩
    have hwalk := Lib.hid (walk_any (encode_visitor w1.heap.size (w1.heap.size + 1)) l [] _ o n c _ hn HSS.out (by decide) J0 ((HA.out.on g).on (Bel.alloc (Bel.refl w1) _)) (fun hpos b off e hk => by
      have := not_blk_arg (HA.out.on g) hpos b off e
      rcases hk with h | ⟨off, h⟩
      · omega
      · cases h))
    clear g J0
    go_wp2_with fail
    refine hwalk.out.mono ?_
    rintro e w2 ⟨rfl, F2, j2, m2, -⟩
    have hB : Hid (Bel w w2) := Lib.hid (G.out.trans (Mod.bel_of (Bel.alloc (Bel.refl w1) _) m2 (fun i hi => by
      rcases hi with h | ⟨off, h⟩
      · rw [h]; exact Nat.le_refl _
      · cases h)))
    rw [hw.out] at j2
    obtain ⟨o2, n2, c2, -, hT, hV, -⟩ := (j2 rfl).text
    rw [List.nil_append, evs_text] at hT
    have hT2 : TxR w2 (w1.heap.size + 1) o2 n2 c2 (text t) := hT
    have hcv := own_conv hT2
    have c0 := hV.1
    clear j2 hT hT2 hV m2 hwalk
    go_wp2
    go_ret2
    exact ⟨by rw [hr.out, Hz.out]; rfl, hB.out⟩
  · have hr := Lib.hid (show encT l = [] by
      unfold encT
      cases hp : par l with
      | none => rfl
      | some t => exact if_neg (fun h => hz (by unfold chk; rw [hp]; exact h)))
    obtain ⟨z, hzz⟩ : ∃ z, chk l = z := ⟨_, rfl⟩
    have HZ := Lib.hid hzz
    rw [hzz] at HC hz
    have hzb : (z == 0) = false := by simpa using hz
    have hzn : (z != 0) = true := by simpa using hz
    clear hzz
    go_enter Tryz.func25, Tryz.ntmps25
    go_wp2_with fail
    refine HC.out.mono ?_
    rintro e w1 ⟨rfl, g⟩
    have G := Lib.hid g
    clear g
    go_wp2
    go_ret2
    exact ⟨by rw [hr.out, HZ.out]; rfl, G.out⟩
end Val
end Go.Proofs.YtegfcmnbljdcpaaGreatDoor
