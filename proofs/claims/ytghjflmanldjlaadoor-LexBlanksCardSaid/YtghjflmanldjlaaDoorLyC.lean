/-
  Layer 7: the law LexBlanks.
-/
import Derived.Test.YtghjflmanldjlaaDoorLyB
namespace Go.Proofs.YtghjflmanldjlaaDoor
open Go.RowKit Go.ChangeShapes Go.WideShapes
namespace Lex

theorem tokens_pk {s : Txt} (h : s.length ≤ 4000) : tokens s = pk 0 0 s := by
  unfold tokens pk
  rw [if_neg (by omega), Nat.zero_add]
theorem cat3 (H B T : ByteArray) (h b t : Txt) (eh : H.toList = h) (eb : B.toList = b) (et : T.toList = t) : ((H ++ B) ++ T).toList = h ++ (b ++ t) := by
  subst eh eb et
  rw [toL, toL, toL, toL, ByteArray.data_append, ByteArray.data_append]
  simp
theorem placed_get {s : Txt} : ∀ {L : List Tk} {e k : Nat} {t : Tk}, Placed s e L → L[k]? = some t → ∃ p : Nat, t.a = p ∧ p ≤ s.length
  | [], _, _, _, _, h => by cases h
  | u :: r, e, 0, t, ⟨p, h1, h2, h3, h4, _⟩, h => by
    obtain rfl := Option.some.inj h
    exact ⟨p, h1, by omega⟩
  | u :: r, e, k + 1, t, ⟨p, h1, h2, h3, h4, h5, h6⟩, h => placed_get h6 h
/-- What is inserted. -/
def blk (tab last : Bool) : Txt := (if last then [10] else []) ++ (if tab then [9, 47, 47, 32, 120, 32, 64, 32, 34, 10] else [32, 10])
theorem blk_gap (tab last : Bool) : gapS false (blk tab last) = true ∧ (∃ c r, blk tab last = c :: r ∧ blankB c = true) ∧ (last = true → ∃ r, blk tab last = 10 :: r) ∧ (blk tab last).length ≤ 11 := by
  cases tab <;> cases last
  · exact ⟨by decide, ⟨_, _, rfl, by decide⟩, fun h => by (cases h), by decide⟩
  · exact ⟨by decide, ⟨_, _, rfl, by decide⟩, fun _ => ⟨_, rfl⟩, by decide⟩
  · exact ⟨by decide, ⟨_, _, rfl, by decide⟩, fun h => by (cases h), by decide⟩
  · exact ⟨by decide, ⟨_, _, rfl, by decide⟩, fun _ => ⟨_, rfl⟩, by decide⟩
/-- The tokens of a text into which blanks are inserted. -/
theorem ins_tokens (s : Txt) (hs : s.length ≤ 3900) (he : (tokens s).e = 0) (k q : Nat) (tab last : Bool) (hlast : last = true → k = (tokens s).l.length ∧ q = s.length) (hnot : last = false → ∃ t, (tokens s).l[k]? = some t ∧ t.a = (q : Int)) :
    (tokens (s.take q ++ (blk tab last ++ s.drop q))).e = 0 ∧ (tokens (s.take q ++ (blk tab last ++ s.drop q))).l.map core = (tokens s).l.map core := by
  obtain ⟨b1, b2, b3, b4⟩ := blk_gap tab last
  have hlen : (s.take q ++ (blk tab last ++ s.drop q)).length ≤ 4000 := by
    rw [List.length_append, List.length_append, List.length_take, List.length_drop]
    omega
  have e1 := tokens_pk (s := s) (by omega)
  rw [tokens_pk hlen, e1]
  rw [e1] at he hlast hnot
  refine blanks (blk tab last) b1 b2 s.length 0 0 0 s k q (Nat.le_refl _) he ?_
  cases last with
  | true => obtain ⟨h1, h2⟩ := hlast rfl; exact Or.inr ⟨h1, h2, b3 rfl⟩
  | false => obtain ⟨t, h1, h2⟩ := hnot rfl; exact Or.inl ⟨t, h1, by rw [h2, Nat.zero_add]⟩
set_option maxRecDepth 100000 in
set_option maxHeartbeats 4000000 in
theorem law_blanks (s : ByteArray) (which : Int) (tab : Bool) (w : World) (hm : ML w) : Calls Tryd.prog 8 #[.string s, .int .i64 which, .bool tab] w fun e w' => e = .returned (.bool true) ∧ Bel w w' := by
  have HM := Lib.hid hm
  have G := Lib.hid (Bel.refl w)
  clear hm
  by_cases h5 : 3900 < s.size
  · go_enter Tryd.func8, Tryd.ntmps8
    go_wp2_with (go_at_call 9; ((with_reducible refine (awake_any _ (HM.out.on G.out)).mono ?_); rintro e w' ⟨rfl, g⟩; replace G := Lib.hid (Bel.trans G.out g); clear g))
    go_ret
    exact ⟨rfl, G.out⟩
  have H1 := Lib.hid (fun w => tokens_any s w)
  by_cases he : (tokens s.toList).e = 0
  · have hlen := tokens_len he
    have hpl := tokens_placed he
    have hins := ins_tokens s.toList (by rw [toL_len]; omega) he
    obtain ⟨R, hR⟩ : ∃ R, tokens s.toList = R := ⟨_, rfl⟩
    rw [hR] at H1 hlen hpl hins he
    have heb : (R.e != 0) = false := by simpa using he
    have HIns := Lib.hid hins
    have HPl := Lib.hid hpl
    have hLen := Lib.hid hlen
    clear he hR hins hpl hlen
    by_cases hw0 : which < 0
    · go_enter Tryd.func8, Tryd.ntmps8
      go_wp2_with fail
      refine (H1.out _).mono ?_
      rintro e w1 ⟨⟨o, n, c, rfl, hA, hc, hfr⟩, g1⟩
      replace G := Lib.hid g1
      clear g1 hA hc hfr H1
      go_wp2_with (go_at_call 9; ((with_reducible refine (awake_any _ (HM.out.on G.out)).mono ?_); rintro e w' ⟨rfl, g⟩; replace G := Lib.hid (Bel.trans G.out g); clear g))
      go_ret
      exact ⟨rfl, G.out⟩
    obtain ⟨k, rfl⟩ := Int.eq_ofNat_of_zero_le (show 0 ≤ which by omega)
    clear hw0
    go_enter Tryd.func8, Tryd.ntmps8
    go_wp2_with fail
    refine (H1.out _).mono ?_
    rintro e w1 ⟨⟨o, n, c, rfl, hA, hc, hfr⟩, g1⟩
    replace G := Lib.hid g1
    have A1 := Lib.hid hA
    have hLn := Lib.hid hA.1
    have hn1 : n ≤ 1000 := by rw [← hA.1]; exact hLen.out
    clear g1 hA hc hfr H1
    by_cases hkn : n < k
    · have hkn2 : (n : Int) < (k : Int) := by omega
      go_wp2_with (go_at_call 9; ((with_reducible refine (awake_any _ (HM.out.on G.out)).mono ?_); rintro e w' ⟨rfl, g⟩; replace G := Lib.hid (Bel.trans G.out g); clear g))
      go_ret
      exact ⟨rfl, G.out⟩
    by_cases hlt : k < n
    · have hk1 : (k : Int) < (n : Int) := by omega
      have hke : ((k : Int) == (n : Int)) = false := by simp; omega
      have hkl : k < R.l.length := by rw [hLn.out]; exact hlt
      obtain ⟨q, hq1, hq2⟩ := placed_get HPl.out (List.getElem?_eq_getElem hkl)
      rw [toL_len] at hq2
      obtain ⟨b, f, rfl, hcells⟩ := A1.out.2 (by omega)
      have x4 := (hcells k hkl).2.2.2
      rw [hq1] at x4
      have hins := HIns.out k q tab false (fun h => by cases h) (fun _ => ⟨_, List.getElem?_eq_getElem hkl, hq1⟩)
      clear hcells hq1 hkl HIns HPl
      cases tab with
      | true =>
        skip
        have sl1 := fun w => cutH s q (q : Int) rfl hq2 w
        have sl2 := fun w => cutE s q (q : Int) rfl hq2 w
        obtain ⟨H, hH⟩ : ∃ H : ByteArray, ⟨(s.toList.take q).toArray⟩ = H := ⟨_, rfl⟩
        obtain ⟨T, hT⟩ : ∃ T : ByteArray, ⟨(s.toList.drop q).toArray⟩ = T := ⟨_, rfl⟩
        rw [hH] at sl1
        rw [hT] at sl2
        have hHl : H.toList = s.toList.take q := by rw [← hH]; exact tl _
        have hTl : T.toList = s.toList.drop q := by rw [← hT]; exact tl _
        have hHs : H.size = q := by rw [← toL_len, hHl, List.length_take, toL_len]; omega
        have hTs : T.size = s.size - q := by rw [← toL_len, hTl, List.length_drop, toL_len]
        obtain ⟨B, hB⟩ : ∃ B : ByteArray, (⟨#[9, 47, 47, 32, 120, 32, 64, 32, 34, 10]⟩ : ByteArray) = B := ⟨_, rfl⟩
        have hBl : B.toList = blk true false := by rw [← hB]; exact tl _
        have hBs : B.size ≤ 11 := by rw [← hB]; decide
        have HT := Lib.hid (fun w => tokens_any ((H ++ B) ++ T) w)
        rw [cat3 H B T _ _ _ hHl hBl hTl] at HT
        generalize tokens (s.toList.take q ++ (blk true false ++ s.toList.drop q)) = R2 at HT hins
        have hcore := Lib.hid hins.2
        have heb2 : (R2.e == 0) = true := by simpa using hins.1
        have c1 : (9223372036854775807 < H.size + B.size) = False := eq_false (by omega)
        have c2 : (9223372036854775807 < H.size + B.size + T.size) = False := eq_false (by omega)
        clear hins hH hT hHl hTl hBl
        go_upto_region 14 with (fail)
        go_region_with (go_at_call 10; (with_reducible refine (HT.out _).mono ?_); rintro e w2 ⟨⟨o2, n2, cc2, rfl, hA2, hc2, hfr2⟩, g2⟩)
        all_goals
          have hcl := congrArg List.length hcore.out
          rw [List.length_map, List.length_map, hA2.1, hLn.out] at hcl
          subst hcl
          have G2 := Lib.hid (Bel.trans (Below.drew G.out) g2)
          have A2 := Lib.hid hA2
          have A3 := Lib.hid ((A1.out.on (Below.drew (Bel.refl _))).on g2)
          clear hA2 hc2 hfr2 g2 G A1 HT
          go_wp2_with fail
          refine (same_yes R.l R2.l _ _ _ _ _ false (by omega) hcore.out.symm (fun h => by cases h) _ A3.out A2.out).mono ?_
          rintro e w5 ⟨rfl, g1⟩
          have G := Lib.hid (Bel.trans G2.out g1)
          clear g1 G2
          go_wp2_with (go_at_call 9; ((with_reducible refine (awake_any _ (HM.out.on G.out)).mono ?_); rintro e w' ⟨rfl, g⟩; replace G := Lib.hid (Bel.trans G.out g); clear g))
          go_ret
          exact ⟨rfl, G.out⟩
      | false =>
        skip
        have sl1 := fun w => cutH s q (q : Int) rfl hq2 w
        have sl2 := fun w => cutE s q (q : Int) rfl hq2 w
        obtain ⟨H, hH⟩ : ∃ H : ByteArray, ⟨(s.toList.take q).toArray⟩ = H := ⟨_, rfl⟩
        obtain ⟨T, hT⟩ : ∃ T : ByteArray, ⟨(s.toList.drop q).toArray⟩ = T := ⟨_, rfl⟩
        rw [hH] at sl1
        rw [hT] at sl2
        have hHl : H.toList = s.toList.take q := by rw [← hH]; exact tl _
        have hTl : T.toList = s.toList.drop q := by rw [← hT]; exact tl _
        have hHs : H.size = q := by rw [← toL_len, hHl, List.length_take, toL_len]; omega
        have hTs : T.size = s.size - q := by rw [← toL_len, hTl, List.length_drop, toL_len]
        obtain ⟨B, hB⟩ : ∃ B : ByteArray, (⟨#[32, 10]⟩ : ByteArray) = B := ⟨_, rfl⟩
        have hBl : B.toList = blk false false := by rw [← hB]; exact tl _
        have hBs : B.size ≤ 11 := by rw [← hB]; decide
        have HT := Lib.hid (fun w => tokens_any ((H ++ B) ++ T) w)
        rw [cat3 H B T _ _ _ hHl hBl hTl] at HT
        generalize tokens (s.toList.take q ++ (blk false false ++ s.toList.drop q)) = R2 at HT hins
        have hcore := Lib.hid hins.2
        have heb2 : (R2.e == 0) = true := by simpa using hins.1
        have c1 : (9223372036854775807 < H.size + B.size) = False := eq_false (by omega)
        have c2 : (9223372036854775807 < H.size + B.size + T.size) = False := eq_false (by omega)
        clear hins hH hT hHl hTl hBl
        go_upto_region 14 with (fail)
        go_region_with (go_at_call 10; (with_reducible refine (HT.out _).mono ?_); rintro e w2 ⟨⟨o2, n2, cc2, rfl, hA2, hc2, hfr2⟩, g2⟩)
        all_goals
          have hcl := congrArg List.length hcore.out
          rw [List.length_map, List.length_map, hA2.1, hLn.out] at hcl
          subst hcl
          have G2 := Lib.hid (Bel.trans (Below.drew G.out) g2)
          have A2 := Lib.hid hA2
          have A3 := Lib.hid ((A1.out.on (Below.drew (Bel.refl _))).on g2)
          clear hA2 hc2 hfr2 g2 G A1 HT
          go_wp2_with fail
          refine (same_yes R.l R2.l _ _ _ _ _ false (by omega) hcore.out.symm (fun h => by cases h) _ A3.out A2.out).mono ?_
          rintro e w5 ⟨rfl, g1⟩
          have G := Lib.hid (Bel.trans G2.out g1)
          clear g1 G2
          go_wp2_with (go_at_call 9; ((with_reducible refine (awake_any _ (HM.out.on G.out)).mono ?_); rintro e w' ⟨rfl, g⟩; replace G := Lib.hid (Bel.trans G.out g); clear g))
          go_ret
          exact ⟨rfl, G.out⟩
    · obtain rfl : k = n := by omega
      have hk1 : ¬ (k : Int) < (k : Int) := by omega
      have hke : ((k : Int) == (k : Int)) = true := by simp
      have hins := HIns.out k s.size tab true (fun _ => ⟨hLn.out.symm, (toL_len s).symm⟩) (fun h => by cases h)
      obtain ⟨q, hq0⟩ : ∃ q, s.size = q := ⟨_, rfl⟩
      have hq2 : q ≤ s.size := by omega
      rw [hq0] at hins
      have hq3 : Hid (s.size = q) := Lib.hid hq0
      clear HIns HPl hq0
      cases tab with
      | true =>
        obtain rfl := hq3.out
        have sl1 := fun w => cutH s s.size (s.size : Int) rfl hq2 w
        have sl2 := fun w => cutE s s.size (s.size : Int) rfl hq2 w
        obtain ⟨H, hH⟩ : ∃ H : ByteArray, ⟨(s.toList.take s.size).toArray⟩ = H := ⟨_, rfl⟩
        obtain ⟨T, hT⟩ : ∃ T : ByteArray, ⟨(s.toList.drop s.size).toArray⟩ = T := ⟨_, rfl⟩
        rw [hH] at sl1
        rw [hT] at sl2
        have hHl : H.toList = s.toList.take s.size := by rw [← hH]; exact tl _
        have hTl : T.toList = s.toList.drop s.size := by rw [← hT]; exact tl _
        have hHs : H.size = s.size := by rw [← toL_len, hHl, List.length_take, toL_len]; omega
        have hTs : T.size = s.size - s.size := by rw [← toL_len, hTl, List.length_drop, toL_len]
        obtain ⟨B, hB⟩ : ∃ B : ByteArray, ((⟨#[10]⟩ : ByteArray) ++ (⟨#[9, 47, 47, 32, 120, 32, 64, 32, 34, 10]⟩ : ByteArray)) = B := ⟨_, rfl⟩
        have hBl : B.toList = blk true true := by rw [← hB]; exact by rw [toL, ByteArray.data_append]; rfl
        have hBs : B.size ≤ 11 := by rw [← hB]; decide
        have HT := Lib.hid (fun w => tokens_any ((H ++ B) ++ T) w)
        rw [cat3 H B T _ _ _ hHl hBl hTl] at HT
        generalize tokens (s.toList.take s.size ++ (blk true true ++ s.toList.drop s.size)) = R2 at HT hins
        have hcore := Lib.hid hins.2
        have heb2 : (R2.e == 0) = true := by simpa using hins.1
        have c1 : (9223372036854775807 < H.size + B.size) = False := eq_false (by omega)
        have c2 : (9223372036854775807 < H.size + B.size + T.size) = False := eq_false (by omega)
        clear hins hH hT hHl hTl hBl
        go_upto_region 14 with (fail)
        go_region_with (go_at_call 10; (with_reducible refine (HT.out _).mono ?_); rintro e w2 ⟨⟨o2, n2, cc2, rfl, hA2, hc2, hfr2⟩, g2⟩)
        all_goals
          have hcl := congrArg List.length hcore.out
          rw [List.length_map, List.length_map, hA2.1, hLn.out] at hcl
          subst hcl
          have G2 := Lib.hid (Bel.trans (Below.drew G.out) g2)
          have A2 := Lib.hid hA2
          have A3 := Lib.hid ((A1.out.on (Below.drew (Bel.refl _))).on g2)
          clear hA2 hc2 hfr2 g2 G A1 HT
          go_wp2_with fail
          refine (same_yes R.l R2.l _ _ _ _ _ false (by omega) hcore.out.symm (fun h => by cases h) _ A3.out A2.out).mono ?_
          rintro e w5 ⟨rfl, g1⟩
          have G := Lib.hid (Bel.trans G2.out g1)
          clear g1 G2
          go_wp2_with (go_at_call 9; ((with_reducible refine (awake_any _ (HM.out.on G.out)).mono ?_); rintro e w' ⟨rfl, g⟩; replace G := Lib.hid (Bel.trans G.out g); clear g))
          go_ret
          exact ⟨rfl, G.out⟩
      | false =>
        obtain rfl := hq3.out
        have sl1 := fun w => cutH s s.size (s.size : Int) rfl hq2 w
        have sl2 := fun w => cutE s s.size (s.size : Int) rfl hq2 w
        obtain ⟨H, hH⟩ : ∃ H : ByteArray, ⟨(s.toList.take s.size).toArray⟩ = H := ⟨_, rfl⟩
        obtain ⟨T, hT⟩ : ∃ T : ByteArray, ⟨(s.toList.drop s.size).toArray⟩ = T := ⟨_, rfl⟩
        rw [hH] at sl1
        rw [hT] at sl2
        have hHl : H.toList = s.toList.take s.size := by rw [← hH]; exact tl _
        have hTl : T.toList = s.toList.drop s.size := by rw [← hT]; exact tl _
        have hHs : H.size = s.size := by rw [← toL_len, hHl, List.length_take, toL_len]; omega
        have hTs : T.size = s.size - s.size := by rw [← toL_len, hTl, List.length_drop, toL_len]
        obtain ⟨B, hB⟩ : ∃ B : ByteArray, ((⟨#[10]⟩ : ByteArray) ++ (⟨#[32, 10]⟩ : ByteArray)) = B := ⟨_, rfl⟩
        have hBl : B.toList = blk false true := by rw [← hB]; exact by rw [toL, ByteArray.data_append]; rfl
        have hBs : B.size ≤ 11 := by rw [← hB]; decide
        have HT := Lib.hid (fun w => tokens_any ((H ++ B) ++ T) w)
        rw [cat3 H B T _ _ _ hHl hBl hTl] at HT
        generalize tokens (s.toList.take s.size ++ (blk false true ++ s.toList.drop s.size)) = R2 at HT hins
        have hcore := Lib.hid hins.2
        have heb2 : (R2.e == 0) = true := by simpa using hins.1
        have c1 : (9223372036854775807 < H.size + B.size) = False := eq_false (by omega)
        have c2 : (9223372036854775807 < H.size + B.size + T.size) = False := eq_false (by omega)
        clear hins hH hT hHl hTl hBl
        go_upto_region 14 with (fail)
        go_region_with (go_at_call 10; (with_reducible refine (HT.out _).mono ?_); rintro e w2 ⟨⟨o2, n2, cc2, rfl, hA2, hc2, hfr2⟩, g2⟩)
        all_goals
          have hcl := congrArg List.length hcore.out
          rw [List.length_map, List.length_map, hA2.1, hLn.out] at hcl
          subst hcl
          have G2 := Lib.hid (Bel.trans (Below.drew G.out) g2)
          have A2 := Lib.hid hA2
          have A3 := Lib.hid ((A1.out.on (Below.drew (Bel.refl _))).on g2)
          clear hA2 hc2 hfr2 g2 G A1 HT
          go_wp2_with fail
          refine (same_yes R.l R2.l _ _ _ _ _ false (by omega) hcore.out.symm (fun h => by cases h) _ A3.out A2.out).mono ?_
          rintro e w5 ⟨rfl, g1⟩
          have G := Lib.hid (Bel.trans G2.out g1)
          clear g1 G2
          go_wp2_with (go_at_call 9; ((with_reducible refine (awake_any _ (HM.out.on G.out)).mono ?_); rintro e w' ⟨rfl, g⟩; replace G := Lib.hid (Bel.trans G.out g); clear g))
          go_ret
          exact ⟨rfl, G.out⟩
  · obtain ⟨R, hR⟩ : ∃ R, tokens s.toList = R := ⟨_, rfl⟩
    rw [hR] at H1 he
    have heb : (R.e != 0) = true := by simpa using he
    clear he hR
    go_enter Tryd.func8, Tryd.ntmps8
    go_wp2_with fail
    refine (H1.out _).mono ?_
    rintro e w1 ⟨⟨o, n, c, rfl, hA, hc, hfr⟩, g1⟩
    replace G := Lib.hid g1
    clear g1 hA hc hfr H1
    go_wp2_with (go_at_call 9; ((with_reducible refine (awake_any _ (HM.out.on G.out)).mono ?_); rintro e w' ⟨rfl, g⟩; replace G := Lib.hid (Bel.trans G.out g); clear g))
    go_ret
    exact ⟨rfl, G.out⟩
end Lex
end Go.Proofs.YtghjflmanldjlaaDoor
