/-
  Layer 7, the reference: Tokens; two lists of tokens that are the same.
-/
import Derived.Test.YtghjflmanldjlaaDoorLexR
import Derived.Deep.QuietTactic
import Derived.BigQuiet
namespace Go.Proofs.YtghjflmanldjlaaDoor
open Go.RowKit Go.ChangeShapes Go.WideShapes
namespace Lex

set_option maxRecDepth 100000 in
set_option maxHeartbeats 4000000 in
theorem rtokens_any (s : ByteArray) (w : World) (hs : s.size ≤ 5000) :
    Calls Tryd.prog 11 #[.string s] w fun e w' => TRes w.heap.size w' e (tokens s.toList) ∧ Bel w w' := by
  have hT : tokens s.toList = if 4000 < s.size then ⟨[], 0, 3⟩ else toks 0 (skipN false s.toList) (s.toList.drop (skipN false s.toList)) := by unfold tokens; rw [toL_len]
  obtain ⟨R0, hR0⟩ : ∃ R0, tokens s.toList = R0 := ⟨_, rfl⟩
  rw [hR0] at hT ⊢
  by_cases h4 : 4000 < s.size
  · rw [if_pos h4] at hT
    subst hT
    clear hR0
    go_enter Tryd.func11, Tryd.ntmps11
    go_wp2
    go_ret3
    exact ⟨TRes.bad _ _ 0 3 _ rfl, Bel.refl _⟩
  rw [if_neg h4] at hT
  have hm : s.size ≤ maxLen := by unfold maxLen; omega
  have HI := Lib.hid (fun w => rskip_any s hm 0 (Nat.zero_le _) w)
  rw [List.drop_zero, Nat.zero_add, show ((0 : Nat) : Int) = 0 from rfl] at HI
  have hsk := skip_le false s.toList
  rw [toL_len] at hsk
  generalize skipN false s.toList = k0 at *
  have hN : Hid (addT [] (toks 0 k0 (s.toList.drop k0)) = R0) := Lib.hid (by rw [addT_nil]; exact hT.symm)
  clear hT hR0
  go_enter Tryd.func11, Tryd.ntmps11
  go_wp2_with fail
  refine (HI.out _).mono ?_
  rintro e w1 ⟨rfl, rfl⟩
  have G1 := Lib.hid (Bel.refl w)
  clear HI
  go_wp2
  go_loopw [5, 6] (fun p i wr => ∃ (k m c : Nat) (o : Option Addr) (L : List Tk), i = .int .i64 (k : Int) ∧ p = .slice o m c ∧ k ≤ s.size ∧ m ≤ 1000 ∧ Hid (addT L (toks m k (s.toList.drop k)) = R0) ∧ Hid (wr.ownsRow w.heap.size 31 4 (.slice o m c) m (encT L)) ∧ Hid (Bel w wr)) (fun _ i _ => s.size - (intOf i).toNat)
  case atStart => exact ⟨k0, 0, 0, none, [], rfl, rfl, hsk, Nat.zero_le _, hN, Lib.hid (World.ownsRow_nil _ _ _ _), G1⟩
  case round =>
    obtain ⟨k, m, cp, o, L, rfl, rfl, hk, hm1, hr, hO, hB⟩ := hrel
    clear hN G1
    by_cases hq : k < s.size
    · have hne : s.toList.drop k ≠ [] := by rw [drop_get s k hq]; simp
      have hr0 := hr.out
      clear hr
      by_cases hm2 : m = 1000
      · subst hm2
        rw [toks_full _ hne, addT_bad _ _ _ (by decide)] at hr0
        subst hr0
        clear hne
        go_wp2
        go_ret3
        exact ⟨TRes.bad _ _ k 3 _ rfl, hB.out⟩
      have hmb : ((m : Int) == 1000) = false := by simp; omega
      have HF := Lib.hid (fun w => one_any s (by omega) k hq w)
      have hn := rd_n (l := s.toList.drop k)
      rw [List.length_drop, toL_len] at hn
      by_cases he : (rdT (s.toList.drop k)).e = 0
      · rw [toks_step hne hm2 he, addT_addT] at hr0
        have hnx := nxt_le he
        rw [List.length_drop, toL_len] at hnx
        have hdef : nxt (s.toList.drop k) = (rdT (s.toList.drop k)).n + skipN false (s.toList.drop (k + (rdT (s.toList.drop k)).n)) := by unfold nxt; rw [List.drop_drop]
        rw [List.drop_drop] at hr0
        obtain ⟨R, hR⟩ : ∃ R, rdT (s.toList.drop k) = R := ⟨_, rfl⟩
        rw [hR] at HF hn he hr0 hdef
        have HG := Lib.hid (fun w => rskip_any s hm (k + R.n) (by omega) w)
        generalize skipN false (s.toList.drop (k + R.n)) = z at *
        generalize nxt (s.toList.drop k) = nx at *
        obtain ⟨rk, rs, ri, rn, re⟩ := R
        dsimp only at he hr0 hn hdef hnx HG
        rw [Int.natCast_add] at HG
        obtain ⟨S, hS⟩ : ∃ S : ByteArray, ⟨rs.toArray⟩ = S := ⟨_, rfl⟩
        have hSl : rs = S.toList := by rw [← hS]; exact (tl _).symm
        rw [hSl] at hr0
        subst he hdef
        have hr2 := Lib.hid hr0
        clear hr0 hne hR
        go_wp2_with fail
        refine (HF.out _).mono ?_
        rintro e w2 ⟨⟨xk, xi, xa, en, pl, xs, rfl, h1, h2⟩, g2⟩
        obtain ⟨rfl, rfl, rfl, rfl, rfl⟩ := h1 rfl
        dsimp only
        rw [hS, Int.natCast_add]
        clear h1 h2 hS hSl
        have G2 := Lib.hid (Bel.trans hB.out g2)
        have hO1 := Lib.hid (own_on hO.out g2)
        clear g2 hB hO HF
        have A1 := Lib.hid (Bel.alloc (Bel.alloc (Bel.refl w2) (.cells #[.int .i64 xk, .string S, .int .i64 xi, .int .i64 (k : Int)] 31)) (.cells #[.int .i64 xk, .string S, .int .i64 xi, .int .i64 (k : Int)] 31))
        have hO2 := Lib.hid (own_on hO1.out A1.out)
        have hB2 := Lib.hid (Bel.trans G2.out A1.out)
        have hc1 := TAt.new (w2.alloc (.cells #[.int .i64 xk, .string S, .int .i64 xi, .int .i64 (k : Int)] 31)) xk xi (k : Int) S 31
        rw [size_alloc2] at hc1
        have hc2 := Lib.hid hc1
        clear hc1 A1 hO1 G2
        go_wp2_with (at_builtin; refine list_tok ⟨xk, S.toList, xi, (k : Int)⟩ _ _ rfl rfl rfl rfl rfl hB2.out hO2.out hc2.out (by omega) ?_; intro o3 c3 w3 g3 h3; refine Hid.out ?_)
        refine Lib.hid ?_
        clear hO2 hB2 hc2
        go_wp2_with fail
        refine (HG.out _).mono ?_
        rintro e w4 ⟨rfl, rfl⟩
        clear HG
        go_wp2_with fail
        go_roundw
        case rel => exact ⟨k + (rn + z), m + 1, c3, o3, L ++ [⟨xk, S.toList, xi, (k : Int)⟩], by go_num, rfl, by omega, by omega, hr2, h3, g3⟩
        case measure => simp [intOf]; omega
      · rw [toks_bad hne hm2 he, addT_bad _ _ _ he] at hr0
        obtain ⟨R, hR⟩ : ∃ R, rdT (s.toList.drop k) = R := ⟨_, rfl⟩
        rw [hR] at HF hn he hr0
        obtain ⟨rk, rs, ri, rn, re⟩ := R
        dsimp only at he hr0 hn
        have he2 : (re != 0) = true := by simpa using he
        have heH := Lib.hid he
        subst hr0
        clear hne hR he
        go_wp2_with fail
        refine (HF.out _).mono ?_
        rintro e w2 ⟨⟨xk, xi, xa, en, pl, xs, rfl, h1, h2⟩, g2⟩
        have hpl := Lib.hid (h2 heH.out)
        have G2 := Lib.hid (Bel.trans hB.out g2)
        clear g2 hB hO HF h1 h2
        dsimp only
        go_wp2
        go_ret3
        exact ⟨TRes.bad _ _ (k + rn) re _ hpl.out, Bel.alloc G2.out _⟩
    · have hr0 := hr.out
      rw [drop_end s (by omega), toks_nil] at hr0
      have hr1 : (⟨L ++ [], 0, 0⟩ : TR) = R0 := hr0
      rw [List.append_nil] at hr1
      subst hr1
      clear hr hr0
      obtain ⟨_, _, hsh, hcap⟩ := own_shape hO.out
      simp only [Value.slice.injEq, true_and] at hsh
      obtain ⟨-, hcp⟩ := hsh
      subst hcp
      have hA := Lib.hid (own_tArg hO.out)
      have hFr := Lib.hid (own_fresh hO.out)
      clear hO
      go_wp2
      go_ret3
      exact ⟨⟨_, _, _, rfl, hA.out, hcap, hFr.out⟩, hB.out⟩
theorem core_get {l1 l2 : List Tk} (h : l1.map core = l2.map core) (i : Nat) (h1 : i < l1.length) (h2 : i < l2.length) : l2[i].k = l1[i].k ∧ l2[i].s = l1[i].s ∧ l2[i].i = l1[i].i := by
  have e : (l1.map core)[i]? = (l2.map core)[i]? := by rw [h]
  simp only [List.getElem?_map, List.getElem?_eq_getElem h1, List.getElem?_eq_getElem h2, Option.map_some, Option.some.injEq, core, Prod.mk.injEq] at e
  exact ⟨e.1.symm, e.2.1.symm, e.2.2.symm⟩
set_option maxRecDepth 100000 in
set_option maxHeartbeats 4000000 in
theorem same_yes (l1 l2 : List Tk) (o1 o2 : Option Addr) (n c1 c2 : Nat) (b : Bool) (hn : n ≤ 1000000) (hcore : l1.map core = l2.map core) (hb : b = true → l1 = l2) (w : World) (h1 : TArg w o1 n l1) (h2 : TArg w o2 n l2) :
    Calls Tryd.prog 12 #[.slice o1 n c1, .slice o2 n c2, .bool b] w fun e w' => e = .returned (.bool true) ∧ Bel w w' := by
  obtain ⟨L1, H1⟩ := h1
  obtain ⟨L2, H2⟩ := h2
  have K1 := Lib.hid H1
  have K2 := Lib.hid H2
  have HC := Lib.hid hcore
  have HB := Lib.hid hb
  have HL1 := Lib.hid L1
  have HL2 := Lib.hid L2
  clear H1 H2 hcore hb L1 L2
  go_enter Tryd.func12, Tryd.ntmps12
  go_wp2
  go_loopw [7, 15] (fun _ i wr => ∃ k : Nat, i = .int .i64 (k : Int) ∧ k ≤ n ∧ Hid (Bel w wr)) (fun _ i _ => n - (intOf i).toNat)
  case atStart => exact ⟨0, rfl, Nat.zero_le _, Lib.hid (Bel.refl _)⟩
  case round =>
    obtain ⟨k, rfl, hk, hB⟩ := hrel
    by_cases hq : k < n
    · obtain ⟨b1, f1, rfl, H1⟩ := K1.out (by omega)
      obtain ⟨b2, f2, rfl, H2⟩ := K2.out (by omega)
      have q1 : k < l1.length := by rw [HL1.out]; exact hq
      have q2 : k < l2.length := by rw [HL2.out]; exact hq
      obtain ⟨x1, x2, x3, x4⟩ := (H1 k q1).on hB.out
      obtain ⟨y1, y2, y3, y4⟩ := (H2 k q2).on hB.out
      obtain ⟨e1, e2, e3⟩ := core_get HC.out k q1 q2
      rw [e1] at y1
      rw [e2] at y2
      rw [e3] at y3
      have e4 : b = true → l2[k].a = l1[k].a := fun h => by have := HB.out h; subst this; rfl
      generalize l1[k].k = v1 at *
      generalize l1[k].i = v3 at *
      generalize (⟨l1[k].s.toArray⟩ : ByteArray) = v2 at *
      generalize l1[k].a = v4 at *
      generalize l2[k].a = v5 at *
      clear H1 H2 e1 e2 e3 K1 K2 HC HB q1 q2 HL1 HL2
      cases b with
      | false =>
        clear e4
        go_wp2_with fail
        go_quiet (fail)
        go_wp2_with fail
        go_roundw
        case rel => exact ⟨k + 1, by go_num, by omega, Lib.hid (Bel.drewN hB.out _)⟩
        case measure => simp [intOf]; omega
      | true =>
        obtain rfl := e4 rfl
        go_wp2_with fail
        go_quiet (fail)
        go_wp2_with fail
        go_roundw
        case rel => exact ⟨k + 1, by go_num, by omega, Lib.hid (Bel.drewN hB.out _)⟩
        case measure => simp [intOf]; omega
    · go_wp2
      go_ret
      exact ⟨rfl, hB.out⟩
end Lex
end Go.Proofs.YtghjflmanldjlaaDoor
