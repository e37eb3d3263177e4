/-
  Layer 7: tokens in memory; what append builds of tokens; Tokens, as the program has it.
-/
import Derived.Test.YtghjflmanldjlaaDoorLexQ
namespace Go.Proofs.YtghjflmanldjlaaDoor
open Go.RowKit Go.ChangeShapes Go.WideShapes
namespace Lex

theorem size_alloc2 (w : World) (o : Obj) : (w.alloc o).heap.size = w.heap.size + 1 := by show (w.heap.push o).size = _; simp
/-- A token as values. -/
def encK (t : Tk) : List Value := [.int .i64 t.k, .string ⟨t.s.toArray⟩, .int .i64 t.i, .int .i64 t.a]
def encT (l : List Tk) : List Value := l.flatMap encK
theorem encK_len (t : Tk) : (encK t).length = 4 := rfl
theorem encT_len (l : List Tk) : (encT l).length = l.length * 4 := by
  induction l with
  | nil => rfl
  | cons c r ih =>
    show (encK c ++ encT r).length = _
    rw [List.length_append, ih, encK_len, List.length_cons]
    omega
theorem encT_app (a b : List Tk) : encT (a ++ b) = encT a ++ encT b := by simp [encT]
theorem encT_one (t : Tk) : encT [t] = encK t := by simp [encT]
theorem tok_one {l : List Tk} : ∀ u ∈ encT l, u.oneCell' = true := fun u hu => by
  simp only [encT, List.mem_flatMap, encK] at hu
  obtain ⟨x, _, hx⟩ := hu
  simp only [List.mem_cons, List.not_mem_nil, or_false] at hx
  rcases hx with rfl | rfl | rfl | rfl <;> rfl
theorem encT_get {l : List Tk} {i : Nat} (h : i < l.length) : (encT l)[i * 4]? = some (.int .i64 l[i].k) ∧ (encT l)[i * 4 + 1]? = some (.string ⟨l[i].s.toArray⟩) ∧ (encT l)[i * 4 + 2]? = some (.int .i64 l[i].i) ∧ (encT l)[i * 4 + 3]? = some (.int .i64 l[i].a) := by
  have e : encT l = encT (l.take i) ++ (encK l[i] ++ encT (l.drop (i + 1))) := by
    rw [← encT_one l[i], ← encT_app, ← encT_app]
    congr 1
    rw [List.singleton_append, ← List.drop_eq_getElem_cons h, List.take_append_drop]
  have hl : (encT (l.take i)).length = i * 4 := by rw [encT_len, List.length_take, Nat.min_eq_left (by omega)]
  rw [e]
  refine ⟨?_, ?_, ?_, ?_⟩
  all_goals
    rw [List.getElem?_append_right (by omega), hl]
    simp [encK]
theorem info_tok : (Tryd.prog.info? 31).map (fun i => (i.zero, i.size, i.bytes)) = some (some (.agg #[.int .i64 0, .string ByteArray.empty, .int .i64 0, .int .i64 0]), 4, 40) := by kernel_rfl
/-- A token at a place of memory. -/
def TAt (w : World) (b o : Nat) (t : Tk) : Prop := w.cell? ⟨b, o, none⟩ = some (.int .i64 t.k) ∧ w.cell? ⟨b, o + 1, none⟩ = some (.string ⟨t.s.toArray⟩) ∧ w.cell? ⟨b, o + 2, none⟩ = some (.int .i64 t.i) ∧ w.cell? ⟨b, o + 3, none⟩ = some (.int .i64 t.a)
theorem TAt.on {w w' : World} {b o : Nat} {t : Tk} (h : TAt w b o t) (g : Bel w w') : TAt w' b o t := ⟨g.cell h.1, g.cell h.2.1, g.cell h.2.2.1, g.cell h.2.2.2⟩
theorem TAt.new (w : World) (k i a : Int) (s : ByteArray) (ty : TypeId) : TAt (w.alloc (.cells #[.int .i64 k, .string s, .int .i64 i, .int .i64 a] ty)) w.heap.size 0 ⟨k, s.toList, i, a⟩ :=
  ⟨by rw [World.cell?_alloc_new]; rfl, by rw [World.cell?_alloc_new]; show some (Value.string s) = some (.string ⟨s.toList.toArray⟩); rw [str_back], by rw [World.cell?_alloc_new]; rfl, by rw [World.cell?_alloc_new]; rfl⟩
/-- A slice of tokens, as a walk reads it. -/
def TArg (w : World) (o : Option Addr) (n : Nat) (l : List Tk) : Prop := l.length = n ∧ (0 < n → ∃ b off, o = some ⟨b, off, none⟩ ∧ ∀ i (h : i < l.length), TAt w b (off + i * 4) l[i])
theorem TArg.on {w w' : World} {o : Option Addr} {n : Nat} {l : List Tk} (h : TArg w o n l) (g : Bel w w') : TArg w' o n l :=
  ⟨h.1, fun hn => let ⟨b, off, e, k⟩ := h.2 hn; ⟨b, off, e, fun i hi => (k i hi).on g⟩⟩
theorem TArg.nil (w : World) (o : Option Addr) : TArg w o 0 [] := ⟨rfl, fun h => absurd h (Nat.lt_irrefl 0)⟩
/-- What is owned reads as a slice of tokens. -/
theorem own_tArg {w : World} {base : Nat} {e : TypeId} {o : Option Addr} {k c : Nat} {l : List Tk} (h : w.ownsRow base e 4 (.slice o k c) k (encT l)) : TArg w o k l := by
  have hl : l.length = k := by have := h.1; rw [encT_len] at this; omega
  refine ⟨hl, fun hk => ?_⟩
  rcases h.2 with ⟨hv, hk0⟩ | ⟨g, cap, cur, hv, _, _, _⟩
  · omega
  · simp only [Value.slice.injEq] at hv
    obtain ⟨rfl, -, rfl⟩ := hv
    refine ⟨g, 0, rfl, fun i hi => ?_⟩
    obtain ⟨e1, e2, e3, e4⟩ := encT_get hi
    have c := h.cells (g := g) rfl
    simp only [Lib.add_plain] at c
    refine ⟨?_, ?_, ?_, ?_⟩
    · have := c _ _ e1; simpa using this
    · have := c _ _ e2; simpa [Nat.add_assoc] using this
    · have := c _ _ e3; simpa [Nat.add_assoc] using this
    · have := c _ _ e4; simpa [Nat.add_assoc] using this
theorem own_fresh {w : World} {base : Nat} {e : TypeId} {z : Nat} {o : Option Addr} {k c : Nat} {xs : List Value} (h : w.ownsRow base e z (.slice o k c) k xs) (hk : 0 < k) : ∃ g, o = some ⟨g, 0, none⟩ ∧ base ≤ g := by
  rcases h.2 with ⟨hv, hk0⟩ | ⟨g, cap, cur, hv, _⟩
  · omega
  · simp only [Value.slice.injEq] at hv
    obtain ⟨rfl, -, rfl⟩ := hv
    exact ⟨g, rfl, (h.lt g rfl).1⟩
theorem tok_news {w : World} {b : Nat} {t : Tk} (h : TAt w b 0 t) : ∀ j u, (encT [t])[j]? = some u → w.cell? ((⟨b, 0, none⟩ : Addr).add j) = some u := fun j u hj => by
  rw [encT_one] at hj
  obtain ⟨h1, h2, h3, h4⟩ := h
  rw [Lib.add_plain]
  match j, hj with
  | 0, hj => simp only [encK, List.getElem?_cons_zero, Option.some.injEq] at hj; rw [← hj]; exact h1
  | 1, hj => simp only [encK, List.getElem?_cons_succ, List.getElem?_cons_zero, Option.some.injEq] at hj; rw [← hj]; exact h2
  | 2, hj => simp only [encK, List.getElem?_cons_succ, List.getElem?_cons_zero, Option.some.injEq] at hj; rw [← hj]; exact h3
  | 3, hj => simp only [encK, List.getElem?_cons_succ, List.getElem?_cons_zero, Option.some.injEq] at hj; rw [← hj]; exact h4
  | j + 4, hj => simp [encK] at hj
/-- A token behind what is owned. -/
theorem app_tok {Y : World} {m c g : Nat} {o : Option Addr} {l : List Tk} {w : World} (t : Tk) (hb : Bel w Y) (hown : Y.ownsRow w.heap.size 31 4 (.slice o m c) m (encT l)) (hc : TAt Y g 0 t) (hm : m ≤ 1099511627776) :
    ∃ v' w', (Builtin.append_ #[23, 23] 23 #[.slice o m c, .slice (some ⟨g, 0, none⟩) 1 1]).run Tryd.prog Y = .ok v' w' ∧ Bel w w' ∧ ∃ o3 c3, v' = .slice o3 (m + 1) c3 ∧ w'.ownsRow w.heap.size 31 4 (.slice o3 (m + 1) c3) (m + 1) (encT (l ++ [t])) := by
  obtain ⟨i0, hi, hz0, hz1, hz2⟩ := info_parts info_tok
  obtain ⟨v', w', r, o3, gr, -⟩ := run_append_own (P := Tryd.prog) _ w.heap.size 23 23 31 i0 _ 4 40 Tryd.underlying23 hi hz0 hz1 hz2 rfl (by decide) _ m _ hown ⟨g, 0, none⟩ 1 1 (encT [t]) rfl
    (tok_news hc) tok_one (by unfold maxLen; omega) (by omega) hb.size
  obtain ⟨p2, c3, rfl, _⟩ := own_shape o3
  exact ⟨_, w', r, own_bel hown hb gr, p2, c3, rfl, by rw [encT_app]; exact o3⟩
/-- The same at a region's operation. -/
theorem list_tok {Y : World} {m c g : Nat} {p : Option Addr} {l : List Tk} {w : World} {ops : Array Oper} {rest : List Oper} {o : Oper} {a : Act} {Q : Exit → Act → World → Prop} (t : Tk) (s x : Operand)
    (ho : o.op = .call { callee := .builtin .append, args := #[s, x], argTypes := #[23, 23] }) (hgd : o.guard = none) (hty : o.type = 23) (hs : a.eval s = .slice p m c) (hx : a.eval x = .slice (some ⟨g, 0, none⟩) 1 1)
    (hb : Bel w Y) (hown : Y.ownsRow w.heap.size 31 4 (.slice p m c) m (encT l)) (hc : TAt Y g 0 t) (hm : m ≤ 1099511627776)
    (h : ∀ o3 c3 w', Hid (Bel w w') → Hid (w'.ownsRow w.heap.size 31 4 (.slice o3 (m + 1) c3) (m + 1) (encT (l ++ [t]))) → wpList Tryd.prog ops Q rest (a.put o.dst (.slice o3 (m + 1) c3)) w') : wpList Tryd.prog ops Q (o :: rest) a Y :=
  wpList_plain hgd fun K hK => by
    obtain ⟨v', w', r, gr, o3, c3, rfl, k⟩ := app_tok t hb hown hc hm
    rw [← hty] at r
    unfold Oper.wp execOp
    simp only [ho, resolve, invoke, builtin, Sem.run_bind, Sem.run_pure, Result.andThen_ok, List.map_toArray, List.map_cons, List.map_nil, hs, hx]
    rw [show (#[o.type, o.type] : Array TypeId) = #[23, 23] by rw [hty]] at r
    simp only [r]
    exact hK _ _ (h o3 c3 w' (Lib.hid gr) (Lib.hid k))
/-- Tokens, a place and an error, as they are returned. -/
def TRes (B : Nat) (w : World) (e : Ending) (R : TR) : Prop := ∃ o n c, e = .returned (.tuple #[.slice o n c, .int .i64 (R.p : Int), .int .i64 R.e]) ∧ TArg w o n R.l ∧ n ≤ c ∧ (0 < n → ∃ g, o = some ⟨g, 0, none⟩ ∧ B ≤ g)
theorem TRes.bad (B : Nat) (w : World) (p : Nat) (E pl : Int) (h : pl = (p : Int)) : TRes B w (.returned (.tuple #[.slice none 0 0, .int .i64 pl, .int .i64 E])) ⟨[], p, E⟩ := ⟨none, 0, 0, by rw [h], TArg.nil w none, Nat.le_refl _, fun h => absurd h (Nat.lt_irrefl 0)⟩
theorem addT_nil (R : TR) : addT [] R = R := by
  obtain ⟨l, p, e⟩ := R
  unfold addT
  dsimp only
  split
  · next h => subst h; rfl
  · rfl
theorem addT_addT (a b : List Tk) (R : TR) : addT a (addT b R) = addT (a ++ b) R := by
  unfold addT
  by_cases h : R.e = 0
  · rw [if_pos h, if_pos h]
    dsimp only
    rw [if_pos rfl, List.append_assoc]
  · rw [if_neg h, if_neg h, if_neg h]
theorem addT_bad (a : List Tk) (p : Nat) (e : Int) (h : e ≠ 0) : addT a ⟨[], p, e⟩ = ⟨[], p, e⟩ := if_neg h
theorem rd_n {l : Txt} : (rdT l).n ≤ l.length := by
  by_cases h : (rdT l).e = 0
  · exact (rd_pos h).2
  · exact rd_bad h
set_option maxRecDepth 100000 in
set_option maxHeartbeats 4000000 in
theorem tokens_any (s : ByteArray) (w : World) :
    Calls Tryd.prog 10 #[.string s] w fun e w' => TRes w.heap.size w' e (tokens s.toList) ∧ Bel w w' := by
  have hT : tokens s.toList = if 4000 < s.size then ⟨[], 0, 3⟩ else toks 0 (skipN false s.toList) (s.toList.drop (skipN false s.toList)) := by unfold tokens; rw [toL_len]
  obtain ⟨R0, hR0⟩ : ∃ R0, tokens s.toList = R0 := ⟨_, rfl⟩
  rw [hR0] at hT ⊢
  by_cases h4 : 4000 < s.size
  · rw [if_pos h4] at hT
    subst hT
    clear hR0
    go_enter Tryd.func10, Tryd.ntmps10
    go_wp2
    go_ret3
    exact ⟨TRes.bad _ _ 0 3 _ rfl, Bel.refl _⟩
  rw [if_neg h4] at hT
  have hm : s.size ≤ maxLen := by unfold maxLen; omega
  have HI := Lib.hid (fun w => ignored_any s hm w)
  have hsk := skip_le false s.toList
  rw [toL_len] at hsk
  generalize skipN false s.toList = k0 at *
  have hN : Hid (addT [] (toks 0 k0 (s.toList.drop k0)) = R0) := Lib.hid (by rw [addT_nil]; exact hT.symm)
  clear hT hR0
  go_enter Tryd.func10, Tryd.ntmps10
  go_wp2_with fail
  refine (HI.out _).mono ?_
  rintro e w1 ⟨rfl, g1⟩
  have G1 := Lib.hid g1
  clear g1 HI
  go_wp2
  go_loopw [5, 6] (fun p i wr => ∃ (k m c : Nat) (o : Option Addr) (L : List Tk), i = .int .i64 (k : Int) ∧ p = .slice o m c ∧ k ≤ s.size ∧ m ≤ 1000 ∧ Hid (addT L (toks m k (s.toList.drop k)) = R0) ∧ Hid (wr.ownsRow w.heap.size 31 4 (.slice o m c) m (encT L)) ∧ Hid (Bel w wr)) (fun _ i _ => s.size - (intOf i).toNat)
  case atStart => exact ⟨k0, 0, 0, none, [], rfl, rfl, hsk, Nat.zero_le _, hN, Lib.hid (World.ownsRow_nil _ _ _ _), G1⟩
  case round =>
    obtain ⟨k, m, cp, o, L, rfl, rfl, hk, hm1, hr, hO, hB⟩ := hrel
    clear hN G1
    by_cases hq : k < s.size
    · have hne : s.toList.drop k ≠ [] := by rw [drop_get s k hq]; simp
      have hr0 := hr.out
      clear hr
      by_cases hm2 : m = 1000
      · subst hm2
        rw [toks_full _ hne, addT_bad _ _ _ (by decide)] at hr0
        subst hr0
        clear hne
        go_wp2
        go_ret3
        exact ⟨TRes.bad _ _ k 3 _ rfl, hB.out⟩
      have hmb : ((m : Int) == 1000) = false := by simp; omega
      have sl := fun w => cutE s k (k : Int) rfl (by omega) w
      obtain ⟨T, hT⟩ : ∃ T : ByteArray, ⟨(s.toList.drop k).toArray⟩ = T := ⟨_, rfl⟩
      rw [hT] at sl
      have hTl : T.toList = s.toList.drop k := by rw [← hT]; exact tl _
      have hTs : T.size = s.size - k := by rw [← toL_len, hTl, List.length_drop, toL_len]
      have HF := Lib.hid (fun w => first_any T (by omega) (by omega) w)
      rw [hTl] at HF
      have hn := rd_n (l := s.toList.drop k)
      rw [List.length_drop, toL_len] at hn
      by_cases he : (rdT (s.toList.drop k)).e = 0
      · rw [toks_step hne hm2 he, addT_addT] at hr0
        have hnx := nxt_le he
        rw [List.length_drop, toL_len] at hnx
        have hdef : nxt (s.toList.drop k) = (rdT (s.toList.drop k)).n + skipN false (s.toList.drop (k + (rdT (s.toList.drop k)).n)) := by unfold nxt; rw [List.drop_drop]
        rw [List.drop_drop] at hr0
        obtain ⟨R, hR⟩ : ∃ R, rdT (s.toList.drop k) = R := ⟨_, rfl⟩
        rw [hR] at HF hn he hr0 hdef
        have sl2 := fun w => cutE s (k + R.n) ((k : Int) + (R.n : Int)) (by omega) (by omega) w
        obtain ⟨U, hU⟩ : ∃ U : ByteArray, ⟨(s.toList.drop (k + R.n)).toArray⟩ = U := ⟨_, rfl⟩
        rw [hU] at sl2
        have hUl : U.toList = s.toList.drop (k + R.n) := by rw [← hU]; exact tl _
        have hUs : U.size = s.size - (k + R.n) := by rw [← toL_len, hUl, List.length_drop, toL_len]
        have HG := Lib.hid (fun w => ignored_any U (by unfold maxLen; omega) w)
        rw [hUl] at HG
        generalize skipN false (s.toList.drop (k + R.n)) = z at *
        generalize nxt (s.toList.drop k) = nx at *
        obtain ⟨rk, rs, ri, rn, re⟩ := R
        dsimp only at he hr0 hn hdef sl2 hUs hnx
        unfold rdV at HF
        dsimp only at HF
        obtain ⟨S, hS⟩ : ∃ S : ByteArray, ⟨rs.toArray⟩ = S := ⟨_, rfl⟩
        have hSl : rs = S.toList := by rw [← hS]; exact (tl _).symm
        rw [hS] at HF
        rw [hSl] at hr0
        subst he hdef
        have hr2 := Lib.hid hr0
        clear hr0 hne hT hTl hTs hR hU hUl hUs hS hSl
        go_wp2_with fail
        refine (HF.out _).mono ?_
        rintro e w2 ⟨rfl, g2⟩
        have G2 := Lib.hid (Bel.trans hB.out g2)
        have hO1 := Lib.hid (own_on hO.out g2)
        clear g2 hB hO HF
        have A1 := Lib.hid (Bel.alloc (Bel.alloc (Bel.refl w2) (.cells #[.int .i64 rk, .string S, .int .i64 ri, .int .i64 (k : Int)] 31)) (.cells #[.int .i64 rk, .string S, .int .i64 ri, .int .i64 (k : Int)] 31))
        have hO2 := Lib.hid (own_on hO1.out A1.out)
        have hB2 := Lib.hid (Bel.trans G2.out A1.out)
        have hc1 := TAt.new (w2.alloc (.cells #[.int .i64 rk, .string S, .int .i64 ri, .int .i64 (k : Int)] 31)) rk ri (k : Int) S 31
        rw [size_alloc2] at hc1
        have hc2 := Lib.hid hc1
        clear hc1
        clear A1 hO1 G2
        go_wp2_with (at_builtin; refine list_tok ⟨rk, S.toList, ri, (k : Int)⟩ _ _ rfl rfl rfl rfl rfl hB2.out hO2.out hc2.out (by omega) ?_; intro o3 c3 w3 g3 h3; refine Hid.out ?_)
        refine Lib.hid ?_
        clear hO2 hB2 hc2
        go_wp2_with fail
        refine (HG.out _).mono ?_
        rintro e w4 ⟨rfl, g4⟩
        have G4 := Lib.hid (Bel.trans g3.out g4)
        have hO4 := Lib.hid (own_on h3.out g4)
        clear g4 g3 h3 HG
        go_wp2_with fail
        go_roundw
        case rel => exact ⟨k + (rn + z), m + 1, c3, o3, L ++ [⟨rk, S.toList, ri, (k : Int)⟩], by go_num, rfl, by omega, by omega, hr2, hO4, G4⟩
        case measure => simp [intOf]; omega
      · rw [toks_bad hne hm2 he, addT_bad _ _ _ he] at hr0
        obtain ⟨R, hR⟩ : ∃ R, rdT (s.toList.drop k) = R := ⟨_, rfl⟩
        rw [hR] at HF hn he hr0
        obtain ⟨rk, rs, ri, rn, re⟩ := R
        dsimp only at he hr0 hn
        have he2 : (re != 0) = true := by simpa using he
        unfold rdV at HF
        dsimp only at HF
        subst hr0
        clear hne hT hTl hTs hR he
        go_wp2_with fail
        refine (HF.out _).mono ?_
        rintro e w2 ⟨rfl, g2⟩
        have G2 := Lib.hid (Bel.trans hB.out g2)
        clear g2 hB hO HF
        go_wp2
        go_ret3
        exact ⟨TRes.bad _ _ (k + rn) re _ (by omega), Bel.alloc G2.out _⟩
    · have hr0 := hr.out
      rw [drop_end s (by omega), toks_nil] at hr0
      have hr1 : (⟨L ++ [], 0, 0⟩ : TR) = R0 := hr0
      rw [List.append_nil] at hr1
      subst hr1
      clear hr hr0
      obtain ⟨_, _, hsh, hcap⟩ := own_shape hO.out
      simp only [Value.slice.injEq, true_and] at hsh
      obtain ⟨-, hcp⟩ := hsh
      subst hcp
      have hA := Lib.hid (own_tArg hO.out)
      have hFr := Lib.hid (own_fresh hO.out)
      clear hO
      go_wp2
      go_ret3
      exact ⟨⟨_, _, _, rfl, hA.out, hcap, hFr.out⟩, hB.out⟩
end Lex
end Go.Proofs.YtghjflmanldjlaaDoor
