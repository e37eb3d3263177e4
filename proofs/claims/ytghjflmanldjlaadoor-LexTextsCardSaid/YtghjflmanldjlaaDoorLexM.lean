/-
  Layer 7, the code: strings in quotes.
-/
import Derived.Test.YtghjflmanldjlaaDoorLexL
namespace Go.Proofs.YtghjflmanldjlaaDoor
open Go.RowKit Go.ChangeShapes Go.WideShapes
namespace Lex

theorem bel_first {w : World} {o : Obj} {w2 : World} (h : Bel (w.alloc o) w2) : Bel w w2 := Bel.trans (Bel.alloc (Bel.refl _) _) h
theorem cell_new1 (w : World) (v : Value) (t : TypeId) : (w.alloc (.cells #[v] t)).cell? ⟨w.heap.size, 0, none⟩ = some v := by rw [World.cell?_alloc_new]; rfl
theorem toNat34 : (34 : UInt8).toNat = 34 ∧ (92 : UInt8).toNat = 92 := ⟨rfl, rfl⟩
set_option maxRecDepth 100000 in
set_option maxHeartbeats 4000000 in
theorem quoted_any (s : ByteArray) (hs : s.size ≤ 1000000) (h0 : 0 < s.size) (w : World) :
    Calls Tryd.prog 37 #[.string s] w fun e w' => e = rdV (strT 0 1 (s.toList.drop 1)) ∧ Bel w w' := by
  obtain ⟨Z0, hZ0⟩ : ∃ Z0, strT 0 1 (s.toList.drop 1) = Z0 := ⟨_, rfl⟩
  have hN : Hid (addC [] (strT 0 1 (s.toList.drop 1)) = Z0) := Lib.hid (by rw [addC_nil, hZ0])
  rw [hZ0]
  obtain ⟨Z, hZ1⟩ : ∃ Z, rdV Z0 = Z := ⟨_, rfl⟩
  have hZ : Hid (rdV Z0 = Z) := Lib.hid hZ1
  rw [hZ1]
  clear hZ0 hZ1
  go_enter Tryd.func37, Tryd.ntmps37
  go_wp2
  have TK0 := Lib.hid (TkC.new w 0 0 0 ⟨#[]⟩ 31)
  obtain ⟨W0, hW0⟩ : ∃ W0, w.alloc (.cells #[.int .i64 0, .string ⟨#[]⟩, .int .i64 0, .int .i64 0] 31) = W0 := ⟨_, rfl⟩
  have B0 : Hid (Bel w W0) := Lib.hid (by rw [← hW0]; exact Bel.alloc (Bel.refl _) _)
  rw [hW0] at TK0 ⊢
  clear hW0
  go_loopw [5, 6] (fun p i wr => ∃ (k : Nat) (m c : Nat) (o : Option Addr) (acc : Txt), i = .int .i64 (k : Int) ∧ p = .slice o m c ∧ 1 ≤ k ∧ k ≤ s.size ∧ m ≤ 200 ∧ Hid (addC acc (strT m k (s.toList.drop k)) = Z0) ∧ Hid (wr.ownsRow W0.heap.size 5 1 (.slice o m c) m (encB acc)) ∧ Hid (Bel W0 wr)) (fun _ i _ => s.size - (intOf i).toNat)
  case atStart => exact ⟨1, 0, 0, none, [], rfl, rfl, Nat.le_refl _, h0, Nat.zero_le _, hN, Lib.hid (World.ownsRow_nil _ _ _ _), Lib.hid (Bel.refl _)⟩
  case round =>
    obtain ⟨k, m, cp, o, acc, rfl, rfl, hk1, hk, hm, hr, hO, hB⟩ := hrel
    clear hN
    have B := Lib.hid (Bel.trans B0.out hB.out)
    obtain ⟨t1, t2, t3, t4, f1, f2, f3, f4⟩ := TK0.out.on hB.out
    clear TK0
    by_cases hq : k < s.size
    · have hr0 := hr.out
      rw [drop_get s k hq] at hr0
      clear hr
      obtain ⟨c, hc⟩ : ∃ c, s[k] = c := ⟨_, rfl⟩
      rw [hc] at hr0
      have hi := fun w => idx_str s .i64 (k : Int) k rfl hq w
      rw [hc] at hi
      clear hc
      have hw := wrap_byte c
      by_cases c34 : c = 34
      · subst c34
        simp only [toNat34.1] at hi
        have hw : wrap32 34 = 34 := wrap_byte 34
        rw [str_end] at hr0
        have hcv := own_conv hO.out
        have hr1 : (⟨4, acc ++ [], 0, k + 1, 0⟩ : Rd) = Z0 := hr0
        rw [List.append_nil] at hr1
        subst hr1
        have hZ2 := hZ.out
        unfold rdV at hZ2
        dsimp only at hZ2
        clear hr0
        generalize (⟨acc.toArray⟩ : ByteArray) = T at hcv hZ2
        rw [Int.natCast_add, show ((1 : Nat) : Int) = 1 from rfl] at hZ2
        subst hZ2
        clear hZ
        go_wp2
        exact bodyPost_ret (v := .tuple #[.agg #[.int .i64 4, .string T, .int .i64 0, .int .i64 0], .int .i64 ((k : Int) + 1), .int .i64 0]) (by simp [results, Tryd.results37, go_sem, t1, t2, t3, t4]) rfl ⟨rfl, ((((B.out.setCell (Nat.le_refl _) _).setCell (Nat.le_refl _) _).setCell (Nat.le_refl _) _).setCell (Nat.le_refl _) _)⟩
      have n34 : ((c.toNat : Int) == 34) = false := (neb 34 (by omega) c34).1
      cases hctl : (c < 32 || 126 < c) with
      | true =>
        rw [str_bad _ c34 hctl, addC_bad _ _ _ (by decide)] at hr0
        rw [ctl_byte, Bool.or_eq_true, decide_eq_true_eq, decide_eq_true_eq] at hctl
        clear c34
        by_cases hlt : (c.toNat : Int) < 32
        · clear hctl
          subst hr0
          have hZ2 := hZ.out
          change Ending.returned (.tuple #[.agg #[.int .i64 0, .string ⟨#[]⟩, .int .i64 0, .int .i64 0], .int .i64 ((k : Nat) : Int), .int .i64 1]) = Z at hZ2
          subst hZ2
          clear hZ
          go_wp2_with (fail)
          exact bodyPost_ret (v := .tuple #[.agg #[.int .i64 0, .string ⟨#[]⟩, .int .i64 0, .int .i64 0], .int .i64 k, .int .i64 1]) (by simp [results, Tryd.results37, go_sem, t1, t2, t3, t4]) rfl ⟨rfl, ((((B.out.setCell (Nat.le_refl _) _).setCell (Nat.le_refl _) _).setCell (Nat.le_refl _) _).setCell (Nat.le_refl _) _)⟩
        · have hgt : 126 < (c.toNat : Int) := by omega
          clear hctl
          subst hr0
          have hZ2 := hZ.out
          change Ending.returned (.tuple #[.agg #[.int .i64 0, .string ⟨#[]⟩, .int .i64 0, .int .i64 0], .int .i64 ((k : Nat) : Int), .int .i64 1]) = Z at hZ2
          subst hZ2
          clear hZ
          go_wp2_with (fail)
          exact bodyPost_ret (v := .tuple #[.agg #[.int .i64 0, .string ⟨#[]⟩, .int .i64 0, .int .i64 0], .int .i64 k, .int .i64 1]) (by simp [results, Tryd.results37, go_sem, t1, t2, t3, t4]) rfl ⟨rfl, ((((B.out.setCell (Nat.le_refl _) _).setCell (Nat.le_refl _) _).setCell (Nat.le_refl _) _).setCell (Nat.le_refl _) _)⟩
      | false =>
        have hctl2 := hctl
        rw [ctl_byte, Bool.or_eq_false_iff, decide_eq_false_iff_not, decide_eq_false_iff_not] at hctl2
        obtain ⟨hlt, hgt⟩ := hctl2
        by_cases c92 : c = 92
        · subst c92
          simp only [toNat34.2] at hi hlt hgt n34 hw
          clear hlt hgt hctl
          have sl := fun w => cutE s (k + 1) ((k : Int) + 1) (by omega) (by omega) w
          obtain ⟨U, hU⟩ : ∃ U : ByteArray, ⟨(s.toList.drop (k + 1)).toArray⟩ = U := ⟨_, rfl⟩
          rw [hU] at sl
          have hUl : U.toList = s.toList.drop (k + 1) := by rw [← hU]; exact tl _
          clear hU
          cases he : headIs escB (s.toList.drop (k + 1)) with
          | false =>
            have HE := Lib.hid (fun w => esc_any U false (by rw [hUl]; exact he) w)
            rw [str_esc_bad _ he, addC_bad _ _ _ (by decide)] at hr0
            clear hUl he c34
            subst hr0
            have hZ2 := hZ.out
            change Ending.returned (.tuple #[.agg #[.int .i64 0, .string ⟨#[]⟩, .int .i64 0, .int .i64 0], .int .i64 ((k : Nat) : Int), .int .i64 1]) = Z at hZ2
            subst hZ2
            clear hZ
            go_wp2_with ((go_at_call 54; ((with_reducible refine (HE.out _).mono ?_); rintro e w' ⟨rfl, rfl⟩)))
            exact bodyPost_ret (v := .tuple #[.agg #[.int .i64 0, .string ⟨#[]⟩, .int .i64 0, .int .i64 0], .int .i64 k, .int .i64 1]) (by simp [results, Tryd.results37, go_sem, t1, t2, t3, t4]) rfl ⟨rfl, ((((B.out.setCell (Nat.le_refl _) _).setCell (Nat.le_refl _) _).setCell (Nat.le_refl _) _).setCell (Nat.le_refl _) _)⟩
          | true =>
            have HE := Lib.hid (fun w => esc_any U true (by rw [hUl]; exact he) w)
            have hq1 : k + 1 < s.size := by
              rcases Nat.lt_or_ge (k + 1) s.size with g | g
              · exact g
              · rw [drop_end s g] at he; cases he
            rw [drop_get s (k + 1) hq1] at he hr0
            obtain ⟨d, hd⟩ : ∃ d, s[k + 1] = d := ⟨_, rfl⟩
            have hi2 := fun w => idx_str s .i64 ((k : Int) + 1) (k + 1) (by omega) hq1 w
            rw [hd] at he hr0 hi2
            have he2 : escB d = true := he
            clear hUl he c34 hd
            by_cases hm2 : m = 200
            · subst hm2
              rw [str_esc_full _ he2, addC_bad _ _ _ (by decide)] at hr0
              clear he2
              subst hr0
              have hZ2 := hZ.out
              change Ending.returned (.tuple #[.agg #[.int .i64 0, .string ⟨#[]⟩, .int .i64 0, .int .i64 0], .int .i64 0, .int .i64 3]) = Z at hZ2
              subst hZ2
              clear hZ
              go_wp2_with ((go_at_call 54; ((with_reducible refine (HE.out _).mono ?_); rintro e w' ⟨rfl, rfl⟩)))
              exact bodyPost_ret (v := .tuple #[.agg #[.int .i64 0, .string ⟨#[]⟩, .int .i64 0, .int .i64 0], .int .i64 0, .int .i64 3]) (by simp [results, Tryd.results37, go_sem, t1, t2, t3, t4]) rfl ⟨rfl, ((((B.out.setCell (Nat.le_refl _) _).setCell (Nat.le_refl _) _).setCell (Nat.le_refl _) _).setCell (Nat.le_refl _) _)⟩
            · have hmb : ((m : Int) == 200) = false := by simp; omega
              rw [str_esc _ he2 hm2, addC_addC] at hr0
              clear he2
              have hO2 := Lib.hid (own_on hO.out (Bel.alloc (Bel.refl _) (.cells #[.int .u8 (d.toNat : Int)] 5)))
              have hB2 := Lib.hid (Bel.alloc hB.out (.cells #[.int .u8 (d.toNat : Int)] 5))
              have hc2 := Lib.hid (cell_new1 wr (.int .u8 (d.toNat : Int)) 5)
              have hr2 := Lib.hid hr0
              clear hO hr0
              go_wp2_with (first | (go_at_call 54; ((with_reducible refine (HE.out _).mono ?_); rintro e w' ⟨rfl, rfl⟩)) | (at_builtin; refine list_byte d _ _ rfl rfl rfl rfl rfl hB2.out hO2.out hc2.out (by omega) ?_; intro o3 c3 w3 g3 h3; refine Hid.out ?_))
              refine Lib.hid ?_
              clear hO2 hB2 hc2 t1 t2 t3 t4 f1 f2 f3 f4 B
              go_wp2
              go_roundw
              case rel => exact ⟨k + 2, m + 1, c3, o3, acc ++ [d], by go_num, rfl, by omega, by omega, by omega, hr2, h3, g3⟩
              case measure => simp [intOf]; omega
        · have n92 : ((c.toNat : Int) == 92) = false := (neb 92 (by omega) c92).1
          by_cases hm2 : m = 200
          · subst hm2
            rw [str_full _ c34 hctl c92, addC_bad _ _ _ (by decide)] at hr0
            clear hctl c34 c92
            subst hr0
            have hZ2 := hZ.out
            change Ending.returned (.tuple #[.agg #[.int .i64 0, .string ⟨#[]⟩, .int .i64 0, .int .i64 0], .int .i64 0, .int .i64 3]) = Z at hZ2
            subst hZ2
            clear hZ
            go_wp2_with (fail)
            exact bodyPost_ret (v := .tuple #[.agg #[.int .i64 0, .string ⟨#[]⟩, .int .i64 0, .int .i64 0], .int .i64 0, .int .i64 3]) (by simp [results, Tryd.results37, go_sem, t1, t2, t3, t4]) rfl ⟨rfl, ((((B.out.setCell (Nat.le_refl _) _).setCell (Nat.le_refl _) _).setCell (Nat.le_refl _) _).setCell (Nat.le_refl _) _)⟩
          · have hmb : ((m : Int) == 200) = false := by simp; omega
            rw [str_byte _ c34 hctl c92 hm2, addC_addC] at hr0
            clear hctl c34 c92
            have hO2 := Lib.hid (own_on hO.out (Bel.alloc (Bel.refl _) (.cells #[.int .u8 (c.toNat : Int)] 5)))
            have hB2 := Lib.hid (Bel.alloc hB.out (.cells #[.int .u8 (c.toNat : Int)] 5))
            have hc2 := Lib.hid (cell_new1 wr (.int .u8 (c.toNat : Int)) 5)
            have hr2 := Lib.hid hr0
            clear hO hr0
            go_wp2_with (first | fail | (at_builtin; refine list_byte c _ _ rfl rfl rfl rfl rfl hB2.out hO2.out hc2.out (by omega) ?_; intro o3 c3 w3 g3 h3; refine Hid.out ?_))
            refine Lib.hid ?_
            clear hO2 hB2 hc2 t1 t2 t3 t4 f1 f2 f3 f4 B
            go_wp2
            go_roundw
            case rel => exact ⟨k + 1, m + 1, c3, o3, acc ++ [c], by go_num, rfl, by omega, by omega, by omega, hr2, h3, g3⟩
            case measure => simp [intOf]; omega
    · have hr0 := hr.out
      rw [drop_end s (by omega), str_nil, addC_bad _ _ _ (by decide)] at hr0
      subst hr0
      have hZ2 := hZ.out
      change Ending.returned (.tuple #[.agg #[.int .i64 0, .string ⟨#[]⟩, .int .i64 0, .int .i64 0], .int .i64 0, .int .i64 1]) = Z at hZ2
      subst hZ2
      clear hr hZ
      go_wp2
      exact bodyPost_ret (v := .tuple #[.agg #[.int .i64 0, .string ⟨#[]⟩, .int .i64 0, .int .i64 0], .int .i64 0, .int .i64 1]) (by simp [results, Tryd.results37, go_sem, t1, t2, t3, t4]) rfl ⟨rfl, ((((B.out.setCell (Nat.le_refl _) _).setCell (Nat.le_refl _) _).setCell (Nat.le_refl _) _).setCell (Nat.le_refl _) _)⟩
end Lex
end Go.Proofs.YtghjflmanldjlaaDoor
